package tests

import (
	"fmt"
	"slices"
	"strings"
	"testing"

	"loop.example/g00019/impl"
)

// changer makes modules by chance whose functions live as those of a liver do, and call one another by their modules' names,
// make Funs, keep them, send them, put them into tables and timers, and call them when their code may be gone.
type changer struct{ liver }

func (r changer) whose() string {
	return r.of("keep", "m", "m", "n", "m", "n", "keep", "m", "n", "none")
}

// call is a call by module and name.
func (r changer) call() string {
	f := r.function()
	return r.whose() + ":" + r.of("version()", "version()", "version()", "makes()", "makes()", "wraps(T)", f+"(T)", f+"(T)", "hidden()", "self()", "reverse([1, 2])", "absent()")
}

// fun is a Fun, or what holds one.
func (r changer) fun() string {
	return r.of("fun version/0", "fun version/0", "fun() -> version() end", "fun() -> {T, say(called)} end", "fun() -> "+r.call()+" end", "makes()", "wraps(T)", r.whose()+":makes()", r.whose()+":wraps(T)", "fun hidden/0", "fun self/0", "fun(X) -> X end")
}

func (r changer) kept() string {
	f := r.fun()
	return r.of(f, "{1, "+f+"}", "[x, "+f+"]", "#{a => "+f+"}", "#{"+f+" => 1}")
}

// waits is a receive that calls what it gets, if that may be called.
func (r changer) waits() string {
	takes := r.of("F when is_function(F) -> say(F), say(try F() catch C:V -> {C, V} end)", "{1, F} -> say(try F() catch C:V -> {C, V} end)", "F when is_function(F) -> spawn(F)", "[x, F] -> F()", "x -> got")
	if r.Intn(3) > 0 {
		takes += "; " + r.of("F when is_function(F) -> F()", "M -> say(M)", "{1, F} -> say(F)")
	}
	if r.Intn(4) > 0 {
		takes += " after " + r.time() + " -> late"
	}
	return "receive " + takes + " end"
}

// changes is something that has to do with code.
func (r changer) changes() string {
	f := r.fun()
	switch r.Intn(12) {
	case 0, 1, 2, 3:
		return "say(" + r.call() + ")"
	case 4:
		return "say(" + f + ")"
	case 5:
		return r.whom() + " ! " + r.kept()
	case 6:
		return r.of("spawn", "spawn_link", "spawn_monitor") + "(" + f + ")"
	case 7:
		return "say((" + f + ")())"
	case 8:
		return r.of("tab_new(t, log)", "tab_put(t, {1, "+f+"})", "tab_put(t, {1, "+f+"})", "[say(try F() catch C:V -> {C, V} end) || {_, F} <- tab_get(t, 1)]", "[say(F) || F <- tab_get(t, 1)]")
	case 9:
		return "send_after(" + r.of("1", "2", "3") + ", " + r.pid() + ", " + r.kept() + ")"
	}
	return r.waits()
}

func (r changer) functionOf(name string) string {
	var body []string
	for range 2 + r.Intn(4) {
		one := r.does(1)
		if r.Intn(3) > 0 {
			one = r.changes()
		}
		if r.Intn(8) > 0 {
			one = "try " + one + " catch " + r.of("C:V -> say({C, V})", "_:_ -> x", "_:V -> say(V)") + " end"
		}
		if r.Intn(6) == 0 {
			one = fmt.Sprintf("K%d = ", len(body)) + r.kept() + ", " + one
		}
		body = append(body, one)
	}
	if r.Intn(3) == 0 {
		body = append(body, name+"(T)", "ends")
	}
	return name + "(T) -> " + strings.Join(body, ", ") + "."
}

// text is a module by chance, of one of three names, whose version says how many were made.
func (r changer) text(name string, made int) string {
	for {
		text := "module " + name + ". export version/0, makes/0, wraps/1. "
		var own []string
		for _, f := range []string{"p", "q", "r", "s"} {
			own = append(own, r.functionOf(f))
			if r.Intn(4) > 0 {
				text += "export " + f + "/1. "
			}
		}
		version := fmt.Sprintf("version() -> %s. ", r.of("v", "v", "say(v)", "{v, work(3)}", "lots(20), v"))
		version = strings.ReplaceAll(version, "v,", fmt.Sprintf("v%d,", made))
		version = strings.NewReplacer("-> v.", fmt.Sprintf("-> v%d.", made), "(v)", fmt.Sprintf("(v%d)", made), ", v.", fmt.Sprintf(", v%d.", made)).Replace(version)
		if r.Intn(5) == 0 {
			text = strings.Replace(text, "version/0, ", "", 1)
		}
		text += strings.Join(own, " ") + " " + version + "makes() -> " + r.of("fun() -> version() end", "fun version/0", "fun() -> say(deep), fun version/0 end", "fun() -> m:version() end") + ". wraps(X) -> " + r.of("fun() -> X end", "[fun() -> {X, version()} end]", "{1, fun() -> hidden() end}", "fun() -> X, fun() -> X end end") +
			". hidden() -> hidden. work(0) -> 0; work(N) -> work(N - 1). z() -> receive x -> 1 end. lots(0) -> 0; lots(N) -> lots(N - 1). loop() -> loop()."
		tree, code, _ := impl.Parse(text)
		if code == impl.OK {
			if code, _ = impl.Lint(tree); code == impl.OK {
				return text
			}
		}
	}
}

func (r changer) texts() []string {
	row := []string{r.text("keep", 0)}
	for n := range 3 + r.Intn(5) {
		row = append(row, r.text(r.of("m", "m", "n", "n", "keep"), n+1))
	}
	return row
}

// acts is acts in which code is loaded and purged, by chance.
func (r changer) acts(texts int) []impl.Act {
	acts := []impl.Act{{Kind: impl.AcSpawn, Name: "p", V: list(livers())}, {Kind: impl.AcLoad, N: r.Intn(texts)}, {Kind: impl.AcSpawn, Name: "keep:q", V: list(livers())}}
	for range 6 + r.Intn(30) {
		switch r.Intn(9) {
		case 0, 1:
			acts = append(acts, impl.Act{Kind: impl.AcLoad, N: r.Intn(texts)})
		case 2:
			acts = append(acts, impl.Act{Kind: impl.AcPurge, Name: r.of("keep", "m", "n", "m", "n", "none")})
		case 3:
			acts = append(acts, impl.Act{Kind: impl.AcSoft, Name: r.of("keep", "m", "n", "m", "n", "none")})
		case 4:
			acts = append(acts, impl.Act{Kind: impl.AcSpawn, Name: r.whose() + ":" + r.function(), V: list(livers())})
		case 5:
			f := fun(2000*r.Intn(4) + r.Intn(400))
			acts = append(acts, impl.Act{Kind: impl.AcSend, N: 1 + r.Intn(5), V: []impl.Term{f, tuple(num(1), f), atom("x")}[r.Intn(3)]})
		case 6:
			acts = append(acts, impl.Act{Kind: impl.AcRun, N: 1 + r.Intn(3)})
		default:
			acts = append(acts, r.act())
		}
	}
	return acts
}

// tallyChange counts what changes by chance meet.
func tallyChange(seen map[string]int, r impl.Report) {
	for _, e := range r.Events {
		switch {
		case e.Kind == impl.EvLoad:
			seen["load"]++
		case e.Kind == impl.EvKeep:
			seen["keep"]++
		case e.Kind == impl.EvPurge && e.V.N > 1:
			seen["purge-more"]++
		case e.Kind == impl.EvPurge:
			seen[fmt.Sprint("purge-", e.V.N)]++
		}
		v, _ := impl.TermShow(e.V)
		for _, what := range []string{"badfun", "undef", "badarg", "v0", "v1", "v2", "v3", "hidden", "deep", "late", "called"} {
			if e.Kind == impl.EvSay && strings.Contains(v, what) {
				seen[what]++
			}
		}
	}
}

// P17: code that is changed by chance, at chance places: what happens is what the words say, and the same when acts are cut in two.
func TestChangesByChanceP17(t *testing.T) {
	t.Parallel()
	r := changer{liver{newChance(111)}}
	seen, lives := map[string]int{}, map[string]int{}
	for range 900 {
		texts := r.texts()
		acts := r.acts(len(texts))
		report := changeRun(t, texts, acts)
		cut, code := impl.Change(texts, r.cut(acts))
		if code != impl.OK || !sameReport(report, cut) {
			t.Fatalf("%s\n%s\nis\n%s\nwhen cut it is\n%s", strings.Join(texts, "\n"), actsText(acts), reportText(report), reportText(cut))
		}
		tallyChange(seen, report)
		tallyLives(lives, report)
	}
	tallied(t, lives, 15, "born living waits linked letters end:normal end:killed end:error")
	tallied(t, seen, 60, "load keep badfun undef badarg v0 v1 v2 v3 hidden purge-0 purge-1 purge-more")
}

// P17: with acts of chapter 10 alone and one text Change is NodeRun, the whole Report; so it is with texts that nobody loads.
func TestChangeIsNodeRunP17(t *testing.T) {
	t.Parallel()
	r := liver{newChance(112)}
	seen := map[string]int{}
	for range 1200 {
		text, acts := r.module(), r.acts()
		want, wrong := impl.NodeRun(text, acts)
		for _, texts := range [][]string{{text}, {text, "module other. export say/1. say(X) -> X.", text}} {
			report, code := impl.Change(texts, acts)
			if wrong != impl.OK || code != impl.OK || !sameReport(report, want) {
				t.Fatalf("%s\n%s\nis code %d\n%s\nby NodeRun code %d\n%s", text, actsText(acts), code, reportText(report), wrong, reportText(want))
			}
		}
		tallyLives(seen, want)
	}
	tallied(t, seen, 15, "born living waits linked named traps letters high low {down {exit badarg system_limit late error throw exit end:normal end:killed end:why")
}

// asker is a process that asks m for its version again and again, and says it, or undef.
const asker = "module keep. main() -> say(try m:version() catch error:V -> V end), main()."

// The steps of a round of an asker that have to do with the call, counted from 1 on. The call is a step only when there is code
// of m; where there is none that is known at once, without a step. Behind the call is one step in m (or at V), and the one that tells.
const (
	askStep   = 4
	callStep  = 5
	tellStep  = 7
	lastStep  = 8
	noVersion = -1
)

// asking is what an asker says and how it ends, by counting.
type asking struct {
	step    int   // of its round
	loads   []int // the texts of all that was loaded
	now     int   // places in loads
	old     int
	called  int
	said    []string
	isEnded bool
}

// turn is the steps of a turn: a call that is made in it is answered as the version does that is current in it.
func (a *asking) turn() {
	for range impl.MaxTurn {
		a.step = a.step%lastStep + 1
		switch a.step {
		case askStep:
			if a.now == noVersion {
				a.step, a.called = callStep, noVersion
			}
		case callStep:
			a.called = a.now
		case tellStep:
			a.tell()
		}
	}
}

func (a *asking) tell() {
	if a.called == noVersion {
		a.said = append(a.said, "undef")
	} else {
		a.said = append(a.said, fmt.Sprint("v", a.loads[a.called]))
	}
}

func (a *asking) load(n int) {
	if a.old == noVersion {
		a.loads, a.now, a.old = append(a.loads, n), len(a.loads), a.now
	}
}

// purge ends an asker whose last step was the call of what is purged.
func (a *asking) purge() {
	if a.old != noVersion && a.step == callStep && a.called == a.old {
		a.isEnded = true
	}
	a.old = noVersion
}

// asked makes acts by chance: turns, loads and purges of m.
func (r changer) asked() ([]impl.Act, *asking) {
	acts := []impl.Act{{Kind: impl.AcSpawn, Name: "main", V: list()}}
	a := &asking{now: noVersion, old: noVersion}
	for len(acts) < 40 {
		switch r.Intn(5) {
		case 0:
			n := 1 + r.Intn(6)
			acts = append(acts, impl.Act{Kind: impl.AcLoad, N: n})
			a.load(n)
		case 1:
			acts = append(acts, impl.Act{Kind: impl.AcPurge, Name: "m"})
			a.purge()
		default:
			acts = append(acts, impl.Act{Kind: impl.AcRun, N: 1})
			if !a.isEnded {
				a.turn()
			}
		}
	}
	return acts, a
}

// P17: each call by module and name, its place in its turn counted by hand, answers as the version does that is current in that turn,
// undef ahead of the first; and only who is in a version when that is purged is ended.
func TestCallsGoToCurrentCodeP17(t *testing.T) {
	t.Parallel()
	r := changer{liver{newChance(113)}}
	texts := []string{asker}
	for n := range 6 {
		texts = append(texts, fmt.Sprintf("module m. export version/0. version() -> v%d.", n+1))
	}
	seen := map[string]int{}
	for range 400 {
		acts, a := r.asked()
		report := changeRun(t, texts, acts)
		var said []string
		for _, e := range report.Events {
			if e.Kind == impl.EvSay {
				said = append(said, e.V.S)
				seen[e.V.S]++
			}
		}
		if len(report.Events) == impl.MaxEvents { // no more are told
			a.said = a.said[:len(said)]
		}
		if !slices.Equal(said, a.said) || a.isEnded != (len(report.Procs) == 0) {
			t.Fatalf("%s\nsays %v\nnot %v; ended %v", actsText(acts), said, a.said, a.isEnded)
		}
		seen[map[bool]string{true: "ended", false: "lives"}[a.isEnded]]++
	}
	tallied(t, seen, 20, "undef v1 v2 v3 v4 v5 v6 ended lives")
}
