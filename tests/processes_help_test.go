package tests

import (
	"fmt"
	"slices"
	"strconv"
	"strings"
	"testing"

	"loop.example/g00019/impl"
)

// actsOf reads acts as these tests write them, with a ; between each two: spawn main [1, 2]; send 1 hi; exit 1 kill; tick 5; run 9; load 1; purge m; soft m.
func actsOf(text string) []impl.Act {
	var acts []impl.Act
	for _, one := range strings.Split(text, ";") {
		words := strings.SplitN(strings.TrimSpace(one), " ", 3)
		kind := 1 + slices.Index([]string{"spawn", "send", "exit", "tick", "run", "load", "purge", "soft"}, words[0])
		a := impl.Act{Kind: kind}
		switch kind {
		case impl.AcSpawn:
			a.Name, a.V = words[1], list()
		case impl.AcPurge, impl.AcSoft:
			a.Name = words[1]
		case 0:
			panic("no act: " + one)
		default:
			a.N, _ = strconv.Atoi(words[1])
		}
		if len(words) > 2 {
			a.V = term(words[2])
		}
		acts = append(acts, a)
	}
	return acts
}

// told is the events of a report, as these tests write them: 1 from #p0; 1: it says; @5 1 ends normal; loads 1; keeps m; purges 0.
func told(r impl.Report) string {
	var all []string
	for _, e := range r.Events {
		v, _ := impl.TermShow(e.V)
		one := fmt.Sprint(e.Pid) + []string{" ? ", " from ", ": ", " ends ", " loads ", " keeps ", " purges "}[e.Kind] + v
		if e.Kind >= impl.EvLoad {
			one = strings.TrimPrefix(one, "0 ")
		}
		if e.Now > 0 {
			one = fmt.Sprintf("@%d %s", e.Now, one)
		}
		all = append(all, one)
	}
	return strings.Join(all, "; ")
}

// seen is the processes of a report: 1 ready high traps name [letter] links 2 3 steps 7; (normal is not written).
func seen(r impl.Report) string {
	var all []string
	for _, p := range r.Procs {
		words := []string{fmt.Sprint(p.Pid), "ready", []string{"high", "", "low"}[p.Prio], "", p.Name, "", "", fmt.Sprint("steps ", p.Steps)}
		if p.Waits {
			words[1] = "waits"
		}
		if p.Trap {
			words[3] = "traps"
		}
		if len(p.Letters) > 0 {
			words[5], _ = impl.TermShow(list(p.Letters...))
		}
		if len(p.Links) > 0 {
			words[6] = strings.Trim(fmt.Sprint("links ", p.Links), "[]")
			words[6] = strings.ReplaceAll(words[6], "[", "")
		}
		all = append(all, strings.Join(strings.Fields(strings.Join(words, " ")), " "))
	}
	return strings.Join(all, "; ")
}

func sameReport(a, b impl.Report) bool {
	sameEvent := func(a, b impl.Event) bool {
		return a.Now == b.Now && a.Kind == b.Kind && a.Pid == b.Pid && same(a.V, b.V)
	}
	sameProc := func(a, b impl.Proc) bool {
		return a.Pid == b.Pid && a.Waits == b.Waits && a.Prio == b.Prio && a.Trap == b.Trap && a.Name == b.Name && sameRow(a.Letters, b.Letters) && slices.Equal(a.Links, b.Links) && a.Steps == b.Steps
	}
	return a.Now == b.Now && a.Since == b.Since && slices.EqualFunc(a.Events, b.Events, sameEvent) && slices.EqualFunc(a.Procs, b.Procs, sameProc) && slices.Equal(a.Ready, b.Ready)
}

func zeroReport(r impl.Report) bool { return sameReport(r, impl.Report{}) }

func reportText(r impl.Report) string {
	return fmt.Sprintf("at %d since %d\n%s\n%s\nready %v", r.Now, r.Since, told(r), seen(r), r.Ready)
}

// nodeRun is what becomes of a node of acts that are some: what the second reading says, at each run. Into
// the acts and the room behind them nothing is written, and the report shares no memory with them.
func nodeRun(t *testing.T, text string, acts []impl.Act) impl.Report {
	t.Helper()
	tree := parsed(t, text)
	return happens(t, []string{text}, acts, func(room []impl.Act) (impl.Report, int) { return impl.NodeRun(text, room) }, nodeByWords(tree, acts))
}

// happens is what becomes of a node by a face, as nodeRun asks it; words is the report of the second reading.
func happens(t *testing.T, texts []string, acts []impl.Act, face func([]impl.Act) (impl.Report, int), words impl.Report) impl.Report {
	t.Helper()
	given := make([]impl.Term, 0, len(acts))
	room := make([]impl.Act, 0, len(acts)+2)
	for _, a := range acts {
		given = append(given, a.V)
	}
	given = roomyRow(given)
	before := wideRow(given)
	for i, a := range acts {
		a.V = given[i]
		room = append(room, a)
	}
	r, code := face(room)
	if code != impl.OK {
		t.Fatalf("%s\ncode %d", strings.Join(texts, "\n"), code)
	}
	for i, a := range room[:cap(room)] {
		if i < len(acts) && (a.Kind != acts[i].Kind || a.N != acts[i].N || a.Name != acts[i].Name || !same(a.V, acts[i].V)) || i >= len(acts) && (a.Kind != 0 || a.V.Kind != 0) {
			t.Fatalf("%s\nact %d was written into", strings.Join(texts, "\n"), i)
		}
	}
	if !sameRow(wideRow(given), before) {
		t.Fatalf("%s\nwrites into the acts' terms, or behind them", strings.Join(texts, "\n"))
	}
	if !sameReport(r, words) {
		t.Fatalf("%s\nof %s is\n%s\nby the words\n%s", strings.Join(texts, "\n"), actsText(acts), reportText(r), reportText(words))
	}
	standsAlone(t, given, r)
	holdsTogether(t, r)
	return r
}

func actsText(acts []impl.Act) string {
	var all []string
	for _, a := range acts {
		v, _ := impl.TermShow(a.V)
		all = append(all, strings.TrimSpace(fmt.Sprintf("%s %d %s %s", []string{"?", "spawn", "send", "exit", "tick", "run", "load", "purge", "soft"}[a.Kind], a.N, a.Name, v)))
	}
	return strings.Join(all, "; ")
}

// standsAlone asks that no two lists of a report share memory, nor one of it and what was given.
func standsAlone(t *testing.T, given []impl.Term, r impl.Report) {
	t.Helper()
	var answer []impl.Term
	for _, e := range r.Events {
		answer = append(answer, e.V)
	}
	numbers := map[*int]bool{}
	for i := range r.Ready[:cap(r.Ready)] {
		numbers[&r.Ready[:cap(r.Ready)][i]] = true
	}
	for _, p := range r.Procs {
		answer = append(answer, list(p.Letters...))
		for i := range p.Links[:cap(p.Links)] {
			if place := &p.Links[:cap(p.Links)][i]; numbers[place] {
				t.Fatal("links share memory")
			} else {
				numbers[place] = true
			}
		}
	}
	keepsApart(t, "NodeRun", given, answer)
}

// holdsTogether asks of a report what P16 says: each is born once and ends at most once, behind that; those born that have not ended are
// the ones that are seen; links are on both sides; just those who do not wait are ready, each once, by their priority.
func holdsTogether(t *testing.T, r impl.Report) {
	t.Helper()
	var born, ended, all, ready []int
	for _, e := range r.Events {
		switch e.Kind {
		case impl.EvSpawn:
			born = append(born, e.Pid)
		case impl.EvEnd:
			if !slices.Contains(born, e.Pid) || slices.Contains(ended, e.Pid) {
				t.Fatalf("%d ends where it can't\n%s", e.Pid, reportText(r))
			}
			ended = append(ended, e.Pid)
		}
	}
	prios := map[int]int{}
	for _, p := range r.Procs {
		all = append(all, p.Pid)
		if !p.Waits {
			ready = append(ready, p.Pid)
			prios[p.Pid] = p.Prio
		}
		for _, other := range p.Links {
			if !slices.ContainsFunc(r.Procs, func(q impl.Proc) bool { return q.Pid == other && slices.Contains(q.Links, p.Pid) }) || other == p.Pid {
				t.Fatalf("%d and %d are not linked on both sides\n%s", p.Pid, other, reportText(r))
			}
		}
	}
	for i, pid := range born {
		if pid != i+1 {
			t.Fatalf("born are %v", born)
		}
	}
	living := slices.DeleteFunc(slices.Clone(born), func(pid int) bool { return slices.Contains(ended, pid) })
	if len(r.Events) < impl.MaxEvents && !slices.Equal(living, all) {
		t.Fatalf("born and not ended are %v, seen are %v", living, all)
	}
	inRows := slices.Clone(r.Ready)
	slices.SortStableFunc(inRows, func(a, b int) int { return prios[a] - prios[b] })
	if !slices.Equal(inRows, r.Ready) {
		t.Fatalf("ready are %v, not by their priorities\n%s", r.Ready, reportText(r))
	}
	slices.Sort(inRows)
	if !slices.Equal(inRows, ready) {
		t.Fatalf("ready are %v, not waiting %v", r.Ready, ready)
	}
}

// lived is what becomes of a node of the module m with these forms.
func lived(t *testing.T, forms string, acts string) impl.Report {
	t.Helper()
	return nodeRun(t, "module m. "+forms, actsOf(acts))
}

// tells asks what is told.
func tells(t *testing.T, forms string, acts string, want string) impl.Report {
	t.Helper()
	r := lived(t, forms, acts)
	if told(r) != want {
		t.Errorf("%s\n%s\ntells %s\nnot   %s", forms, acts, told(r), want)
	}
	return r
}

// shows asks what is seen of the processes.
func shows(t *testing.T, forms string, acts string, want string) impl.Report {
	t.Helper()
	r := lived(t, forms, acts)
	if seen(r) != want {
		t.Errorf("%s\n%s\nshows %s\nnot   %s", forms, acts, seen(r), want)
	}
	return r
}

// sayings is what a process says, with blanks between.
func sayings(r impl.Report, pid int) string {
	var all []impl.Term
	for _, e := range r.Events {
		if e.Kind == impl.EvSay && e.Pid == pid {
			all = append(all, e.V)
		}
	}
	return texts(all)
}

// eachSays asks of rows of expressions, with -> behind each, what the process says whose body they are.
func eachSays(t *testing.T, forms string, rows ...string) {
	t.Helper()
	for _, row := range rows {
		body, want, is := strings.Cut(row, " => ")
		if !is {
			t.Fatal("no row:", row)
		}
		r := lived(t, "main() -> "+body+". "+forms, "spawn main; run 200")
		if got := sayings(r, 1); got != want {
			t.Errorf("%s\nsays %s\nnot  %s\n%s", body, got, want, told(r))
		}
	}
}

func TestConstantsOfProcesses(t *testing.T) {
	for name, pair := range map[string][2]int{
		"MaxSince": {impl.MaxSince, 8}, "MaxTurn": {impl.MaxTurn, 50}, "MaxLetters": {impl.MaxLetters, 500}, "MaxWait": {impl.MaxWait, 1000000000},
		"MaxProcs": {impl.MaxProcs, 60}, "MaxTimers": {impl.MaxTimers, 200}, "MaxTables": {impl.MaxTables, 20}, "MaxActs": {impl.MaxActs, 100},
		"MaxTurns": {impl.MaxTurns, 200}, "MaxEvents": {impl.MaxEvents, 400}, "SgIgnore": {impl.SgIgnore, 0}, "SgLetter": {impl.SgLetter, 1}, "SgDie": {impl.SgDie, 2},
		"AcSpawn": {impl.AcSpawn, 1}, "AcSend": {impl.AcSend, 2}, "AcExit": {impl.AcExit, 3}, "AcTick": {impl.AcTick, 4}, "AcRun": {impl.AcRun, 5},
		"EvSpawn": {impl.EvSpawn, 1}, "EvSay": {impl.EvSay, 2}, "EvEnd": {impl.EvEnd, 3},
	} {
		if pair[0] != pair[1] {
			t.Error(name, pair)
		}
	}
}
