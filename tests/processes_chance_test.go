package tests

import (
	"fmt"
	"slices"
	"strings"
	"testing"

	"loop.example/g00019/impl"
)

// liver makes modules by chance whose functions live: they send, wait, spawn, link, name, end ..
// Each has the argument T, a Tuple of the Pids 1 .. 9 and the Refs 1 .. 9.
type liver struct{ chance }

func (r liver) pid() string {
	if r.Intn(6) == 0 {
		return r.of("self()", "self()", "self()", "whereis(a)", "T", "element(20, T)")
	}
	return fmt.Sprintf("element(%d, T)", 1+r.Intn(1+r.Intn(9)))
}

func (r liver) ref() string { return fmt.Sprintf("element(%d, T)", 10+r.Intn(9)) }

func (r liver) name() string {
	return r.of("a", "b", "c", "a", "b", "a", "b", "a", "b", "a", "b", "c", "undefined", "5")
}

func (r liver) value() string {
	return r.of("x", "y", "{x, 1}", "[1, 2]", "T", "self()", "now()", "make_ref()", r.pid())
}

func (r liver) reason() string { return r.of("normal", "kill", "why", "{x, 1}", "stop") }

func (r liver) time() string {
	if r.Intn(12) == 0 {
		return r.of("infinity", "-1", "1000000000", "1000000001", "x")
	}
	return r.of("0", "1", "2", "3", "5", "5", "8")
}

func (r liver) function() string { return r.of("p", "q", "r", "s") }

func (r liver) whom() string {
	return r.of(r.pid(), r.pid(), r.name(), "{"+r.name()+", local}", "{"+r.name()+", far}", "{a, local, 1}")
}

func (r liver) clause() string {
	pattern := r.of("x", "{x, N}", "{exit, P, R}", "{down, R, P, Y}", "[H | Rest]", "M", "M", "{x, N} when N > 0", "M when is_pid(M)", "_")
	said := "got"
	if strings.HasPrefix(pattern, "M") {
		said = "M"
	}
	return pattern + " -> " + r.of("say("+said+")", "say("+said+"), "+r.does(1), r.does(1))
}

func (r liver) receive() string {
	var clauses []string
	for range 1 + r.Intn(3) {
		clauses = append(clauses, r.clause())
	}
	text := "receive " + strings.Join(clauses, "; ")
	if r.Intn(5) > 0 {
		text += " after " + r.time() + " -> " + r.of("say(late)", r.does(1))
	}
	return text + " end"
}

func (r liver) spawns() string {
	f := r.function()
	called := r.of("fun() -> "+f+"(T) end", "fun() -> "+f+"(T) end", "fun() -> "+f+"({self(), self(), self()}) end", "fun z/0")
	if r.Intn(12) == 0 {
		called = r.of("fun self/0", "fun p/1", "x")
	}
	return r.of("spawn", "spawn_link", "spawn_monitor", "spawn_link") + "(" + called + ")"
}

func (r liver) touches() string {
	switch r.Intn(7) {
	case 0:
		return "unlink(" + r.pid() + ")"
	case 1:
		return "monitor(" + r.pid() + ")"
	case 2:
		return "demonitor(" + r.of(r.ref(), r.ref(), r.ref(), r.ref(), "x") + ")"
	case 3:
		return "exit(" + r.pid() + ", " + r.reason() + ")"
	case 4:
		return "trap_exit(" + r.of("true", "true", "true", "false", "true", "x") + ")"
	}
	return "link(" + r.pid() + ")"
}

func (r liver) names() string {
	return r.of("register("+r.name()+", "+r.pid()+")", "register("+r.name()+", self())", "unregister("+r.name()+")", "whereis("+r.name()+")", "is_alive("+r.pid()+")",
		"priority("+r.of("high", "normal", "low")+")", "priority("+r.of("high", "low", "high", "low", "x")+")")
}

func (r liver) timers() string {
	return r.of("send_after("+r.time()+", "+r.whom()+", "+r.value()+")", "send_after("+r.of("1", "2", "5")+", "+r.of("a", "b", r.pid())+", x)", "cancel_timer("+r.ref()+")")
}

func (r liver) tables() string {
	n := r.of("t", "u")
	return r.of("tab_new("+n+", "+r.of("set", "bag", "log", "x")+")", "tab_put("+n+", {"+r.of("1", "2", "x")+", "+r.value()+"})", "tab_new("+n+", "+r.of("set", "bag", "log")+")", "tab_put("+n+", "+r.value()+")", "tab_get("+n+", "+r.of("1", "2", "x")+")",
		"tab_drop("+n+", "+r.of("1", "x")+")", "tab_size("+n+")", "tab_select("+n+", [{{{v, 1}, {v, 2}}, [], {v, 2}}])", "tab_select("+n+", x)")
}

// does is something that a process does.
func (r liver) does(deep int) string {
	if deep > 2 {
		return r.of("say(x)", "x", "self()")
	}
	switch r.Intn(16) {
	case 0, 1:
		return r.receive()
	case 2, 3:
		return r.spawns()
	case 4, 5, 6:
		return r.touches()
	case 7:
		return r.names()
	case 8:
		return r.timers()
	case 9:
		return r.tables()
	case 10, 11:
		return r.whom() + " ! " + r.value()
	case 12:
		return r.of("exit("+r.reason()+")", "throw("+r.reason()+")", "hd(1)", "lots("+r.of("1", "5", "20")+")", "lots(200)", "loop()", "error(x)", "m:say(far)", "other:say(x)")
	case 13:
		return "try " + r.does(deep+1) + " catch C:V -> say({C, V}) after " + r.does(deep+1) + " end"
	}
	return "say(try " + r.does(deep+1) + " catch C:V -> {C, V} end)"
}

func (r liver) functionOf(name string) string {
	var body []string
	if r.Intn(3) == 0 {
		body = append(body, r.of("trap_exit(true)", "priority(high)", "priority(low)"))
	}
	for range 3 + r.Intn(6) {
		one := r.does(0)
		if r.Intn(6) > 0 {
			one = "try " + one + " catch " + r.of("C:V -> say({C, V})", "_:_ -> x", "error:V -> say(V)", "error:badarg -> wrong") + " end"
		}
		body = append(body, one)
	}
	if r.Intn(4) == 0 {
		body = append(body, name+"(T)")
	}
	return name + "(T) -> " + strings.Join(body, ", ") + "."
}

// module is such a module, with the functions p .. s, and others that work and wait.
func (r liver) module() string {
	for {
		text := "module m. "
		for _, name := range []string{"p", "q", "r", "s"} {
			text += r.functionOf(name) + " "
		}
		text += "z() -> receive x -> 1 end. lots(0) -> 0; lots(N) -> lots(N - 1). loop() -> loop()."
		tree, code, _ := impl.Parse(text)
		if code == impl.OK {
			if code, _ = impl.Lint(tree); code == impl.OK {
				return text
			}
		}
	}
}

// livers is the argument T.
func livers() impl.Term {
	var row []impl.Term
	for n := range 9 {
		row = append(row, pid(n+1))
	}
	for n := range 9 {
		row = append(row, ref(n+1))
	}
	return tuple(row...)
}

func (r liver) act() impl.Act {
	switch r.Intn(12) {
	case 0, 1, 2:
		return impl.Act{Kind: impl.AcSpawn, Name: r.of("p", "q", "r", "s"), V: list(livers())}
	case 3:
		if r.Intn(4) == 0 {
			return impl.Act{Kind: impl.AcSpawn, Name: r.of("z", "p", "none", "self", ""), V: list()}
		}
	case 4, 5:
		return impl.Act{Kind: impl.AcSend, N: r.Intn(10), V: term(r.of("x", "y", "{x, 1}", "[1, 2]", "#p1"))}
	case 6:
		return impl.Act{Kind: impl.AcExit, N: r.Intn(10), V: term(r.of("normal", "kill", "why", "stop"))}
	case 7, 8:
		return impl.Act{Kind: impl.AcTick, N: r.Intn(7)}
	}
	return impl.Act{Kind: impl.AcRun, N: 1 + r.Intn(20)}
}

func (r liver) acts() []impl.Act {
	acts := []impl.Act{{Kind: impl.AcSpawn, Name: "p", V: list(livers())}, {Kind: impl.AcSpawn, Name: "q", V: list(livers())}}
	for range 2 + r.Intn(14) {
		acts = append(acts, r.act())
	}
	return acts
}

// P16: lives by chance are what the words say, hold together, and are the same when acts are cut in two.
func TestLivesByChanceP16(t *testing.T) {
	t.Parallel()
	r := liver{newChance(101)}
	seenOf := map[string]int{}
	for range 1500 {
		text, acts := r.module(), r.acts()
		report := nodeRun(t, text, acts)
		cut, code := impl.NodeRun(text, r.cut(acts))
		if code != impl.OK || !sameReport(report, cut) {
			t.Fatalf("%s\n%s\nis\n%s\nwhen cut it is\n%s", text, actsText(acts), reportText(report), reportText(cut))
		}
		tallyLives(seenOf, report)
	}
	tallied(t, seenOf, 15, "born living waits linked named traps letters high low {down {exit badarg system_limit late got error throw exit far "+
		"end:normal end:noproc end:kill end:killed end:why end:stop end:nocatch end:error")
}

// cut is the same acts, turns and ticks cut in two at a chance place.
func (r liver) cut(acts []impl.Act) []impl.Act {
	var row []impl.Act
	for _, a := range acts {
		if a.Kind == impl.AcTick || a.Kind == impl.AcRun {
			first := a
			first.N = r.Intn(a.N + 1)
			a.N -= first.N
			row = append(row, first)
		}
		row = append(row, a)
	}
	return row
}

// tallyLives counts what lives by chance meet.
func tallyLives(seen map[string]int, r impl.Report) {
	for _, e := range r.Events {
		v, _ := impl.TermShow(e.V)
		word := strings.FieldsFunc(v, func(c rune) bool { return strings.ContainsRune("{}[], ", c) })
		switch e.Kind {
		case impl.EvSpawn:
			seen["born"]++
		case impl.EvEnd:
			seen["end:"+word[0]]++
		case impl.EvSay:
			for _, w := range word {
				if !strings.HasPrefix(w, "#") {
					seen[w]++
				}
			}
			for _, what := range []string{"{down", "{exit"} {
				if strings.Contains(v, what+", #") {
					seen[what]++
				}
			}
		}
	}
	for _, p := range r.Procs {
		for what, is := range map[string]bool{"living": true, "linked": len(p.Links) > 0, "waits": p.Waits, "traps": p.Trap, "named": p.Name != "", "letters": len(p.Letters) > 0, "high": p.Prio == 0, "low": p.Prio == 2} {
			if is {
				seen[what]++
			}
		}
	}
}

// noise is functions of processes that live beside others and do not end them.
const noise = ` zz_send(0) -> done; zz_send(N) -> zz_to(N), zz_send(N - 1).
zz_to(N) -> try zz_name ! {N, self()} catch _:_ -> none end.
zz_wait() -> register(zz_name, self()), zz_waits().
zz_waits() -> receive {N, P} when N rem 2 == 0 -> P ! N, zz_waits() after 3 -> late end.
zz_spawn(0) -> exit(why); zz_spawn(N) -> spawn_link(fun() -> trap_exit(true), zz_spawn(N - 1), receive X -> X end end), monitor(self()), spawn(fun() -> zz_send(N) end), priority(low), zz_spawn(N - 1).
zz_loop() -> zz_loop().
zz_value(A, B) -> exit({value, f(A, B)}). zz_throw(A, B) -> throw(f(A, B)).`

// reasonOf is for which reason a process ends that answers so.
func reasonOf(a impl.Answer) impl.Term {
	reason := atom("normal")
	switch a.Class {
	case impl.AnError:
		reason = tuple(atom("error"), a.V)
	case impl.AnThrow:
		reason = tuple(atom("nocatch"), a.V)
	case impl.AnExit:
		reason = a.V
	}
	if !impl.TermOK(reason) {
		return atom("system_limit")
	}
	return reason
}

// isMixed tells whether what a function works out is more than pure.
func isMixed(tree []impl.Node, name string, args []impl.Term) bool {
	s := &second{fuel: 300, held: map[int][]string{}}
	s.whole, s.all = partsOfTree(tree)
	s.call(name, args)
	return s.mixed
}

// endOf is the reason for which a process ends, if it does.
func endOf(r impl.Report, pid int) (impl.Term, bool) {
	for _, e := range r.Events {
		if e.Kind == impl.EvEnd && e.Pid == pid {
			return e.V, true
		}
	}
	return impl.Term{}, false
}

// P14: pure functions by chance end as Eval says, alone with its steps, and beside others.
func TestPureFunctionsEndAsEvalP14(t *testing.T) {
	t.Parallel()
	r := newChance(102)
	classes := map[string]int{}
	for _, m := range spokenModules(t, 700) {
		plain, code := impl.Print(flat(m))
		if code != impl.OK {
			continue
		}
		text := plain + noise
		tree := parsed(t, text)
		if code, at := impl.Lint(tree); code != impl.OK {
			t.Fatal(text, code, at)
		}
		args := []impl.Term{anyTerm(r.Rand, 2), anyTerm(r.Rand, 2)}
		name := r.of("f", "zz_value", "zz_throw")
		if isMixed(tree, name, args) {
			continue
		}
		a, _ := impl.Eval(tree, name, args, 300)
		classes[[]string{"value", "error", "throw", "exit", "fuel"}[a.Class]]++
		pureAlone(t, text, name, args, a)
		pureBeside(t, r, text, name, args, a)
	}
	tallied(t, classes, 15, "value error throw exit fuel")
}

// pureAlone asks that a process ends in the turn in which its last step is, and how many steps it has counted ahead of that.
func pureAlone(t *testing.T, text, name string, args []impl.Term, a impl.Answer) {
	t.Helper()
	start := impl.Act{Kind: impl.AcSpawn, Name: name, V: list(args...)}
	turns := (a.Used - 1) / impl.MaxTurn
	r := nodeRun(t, text, []impl.Act{start, {Kind: impl.AcRun, N: turns}})
	if len(r.Procs) != 1 || r.Procs[0].Steps != turns*impl.MaxTurn {
		t.Fatalf("%s\n%s of %s, %d steps, after %d turns is\n%s", text, name, texts(args), a.Used, turns, reportText(r))
	}
	r = nodeRun(t, text, []impl.Act{start, {Kind: impl.AcRun, N: turns + 1}})
	why, ended := endOf(r, 1)
	switch {
	case a.Class == impl.AnFuel && (ended || r.Procs[0].Steps != a.Used):
		t.Fatalf("%s\n%s of %s has not enough fuel, but\n%s", text, name, texts(args), reportText(r))
	case a.Class != impl.AnFuel && (!ended || !same(why, reasonOf(a))):
		t.Fatalf("%s\n%s of %s answers %s with %d steps, but\n%s", text, name, texts(args), shown(a), a.Used, reportText(r))
	}
}

// pureBeside asks that it ends for the same reason beside processes that send, wait, spawn and end.
func pureBeside(t *testing.T, r chance, text, name string, args []impl.Term, a impl.Answer) {
	t.Helper()
	others := []impl.Act{{Kind: impl.AcSpawn, Name: "zz_wait", V: list()}, {Kind: impl.AcSpawn, Name: "zz_send", V: list(num(9))}, {Kind: impl.AcSpawn, Name: "zz_spawn", V: list(num(3))}, {Kind: impl.AcSpawn, Name: "zz_loop", V: list()}}
	r.Shuffle(len(others), func(i, k int) { others[i], others[k] = others[k], others[i] })
	acts := append([]impl.Act{}, others[:2]...)
	acts = append(acts, impl.Act{Kind: impl.AcSpawn, Name: name, V: list(args...)}, impl.Act{Kind: impl.AcRun, N: r.Intn(9)}, impl.Act{Kind: impl.AcSend, N: 3, V: atom("x")}, impl.Act{Kind: impl.AcTick, N: r.Intn(5)})
	acts = append(append(acts, others[2:]...), impl.Act{Kind: impl.AcRun, N: 120})
	report := nodeRun(t, text, acts)
	why, ended := endOf(report, 3)
	if a.Class != impl.AnFuel && (!ended || !same(why, reasonOf(a))) {
		t.Fatalf("%s\n%s of %s answers %s, but beside others\n%s", text, name, texts(args), shown(a), reportText(report))
	}
}

// posted makes a module in which some send letters {S, K, N} to the process r, S being who sends them, K x or y, and N rising; r takes
// them by chance and says what it took.
func (r liver) posted(senders, letters int) string {
	how := r.of("To ! L", "To ! L", "r ! L", "{r, local} ! L")
	takes := func(kind string) string {
		return "receive {S, " + kind + ", N} -> say({S, " + kind + ", N})"
	}
	var body []string
	for range 3 * senders * letters / 2 {
		one := takes(r.of("x", "y"))
		if r.Intn(3) == 0 {
			one = "receive {S, K, N} -> say({S, K, N})"
		}
		if r.Intn(3) == 0 {
			one = "receive {S, x, N} -> say({S, x, N}), " + takes("y") + " after 2 -> late end"
		}
		if r.Intn(4) == 0 {
			one = "receive nothing -> none; {S, " + r.of("x", "y") + " = K, N} when S > " + r.of("0", "1") + " -> say({S, K, N})"
		}
		body = append(body, "fun() -> "+one+" after "+r.of("0", "1", "1", "4")+" -> late end end")
	}
	return fmt.Sprintf(`module m. main() -> register(r, self()), [spawn(fun() -> send(whereis(r), S, 1) end) || S <- %s], [F() || F <- [%s]], say(over).
send(_, _, %d) -> over; send(To, S, N) -> L = {S, kind(S * N rem %d), N}, %s, noise(N * S rem 4), send(To, S, N + 1).
kind(0) -> x; kind(_) -> y. noise(0) -> 0; noise(N) -> noise(N - 1).`, shownNumbers(senders), strings.Join(body, ", "), letters+1, 2+r.Intn(3), how)
}

func shownNumbers(n int) string {
	row := make([]impl.Term, n)
	for i := range row {
		row[i] = num(i + 1)
	}
	text, _ := impl.TermShow(list(row...))
	return text
}

// P15: what a process takes from another one comes in the order in which it was sent, of those that it takes alike; what is left is in order, too.
func TestLettersComeInOrderP15(t *testing.T) {
	t.Parallel()
	r := liver{newChance(103)}
	counted := map[string]int{}
	for range 300 {
		senders, letters := 2+r.Intn(3), 4+r.Intn(8)
		text := r.posted(senders, letters)
		acts := []impl.Act{{Kind: impl.AcSpawn, Name: "main", V: list()}}
		for range 30 {
			acts = append(acts, impl.Act{Kind: impl.AcRun, N: r.Intn(7)})
			if r.Intn(3) == 0 {
				acts = append(acts, impl.Act{Kind: impl.AcTick, N: r.Intn(3)})
			}
		}
		report := nodeRun(t, text, acts)
		sent := map[string][]int{}
		take := func(letter impl.Term, where string) {
			if letter.Kind == impl.TmTuple {
				key, _ := impl.TermShow(tuple(letter.Kids[:2]...))
				sent[key] = append(sent[key], letter.Kids[2].N)
				counted[where]++
			}
		}
		for _, e := range report.Events {
			if e.Kind == impl.EvSay {
				take(e.V, "taken")
			}
		}
		for _, p := range report.Procs {
			for _, letter := range p.Letters {
				take(letter, "left")
			}
		}
		for key, row := range sent {
			if !slices.IsSorted(row) || len(slices.Compact(slices.Clone(row))) != len(row) {
				t.Fatalf("%s\n%s: %v", text, key, row)
			}
		}
	}
	tallied(t, counted, 200, "taken left")
}
