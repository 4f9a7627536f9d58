package tests

import (
	"fmt"
	"runtime"
	"slices"
	"strings"
	"testing"
	"time"

	"loop.example/g00019/impl"
)

const plainText = "module m. export open/0. open() -> say(open). closed() -> say(closed). says(X) -> say(X). says(X, Y) -> say({X, Y}). loops() -> loops(). waits() -> receive never -> 1 end."

// runCode is the code of NodeRun, whose report has to be the zero value when it is not OK.
func runCode(t *testing.T, text string, acts []impl.Act) int {
	t.Helper()
	r, code := impl.NodeRun(text, acts)
	if code != impl.OK && !zeroReport(r) {
		t.Errorf("code %d with a report: %s", code, reportText(r))
	}
	return code
}

func TestTextsThatAreNone(t *testing.T) {
	start := []impl.Act{{Kind: impl.AcSpawn, Name: "main", V: list()}, {Kind: impl.AcRun, N: 1}}
	for _, text := range []string{
		"", "module", "module m", "module m. f() -> .", "module M. f() -> 1.", "module m. f() -> 1", "module m. f() -> 1. x", "module m.f() -> \"", strings.Repeat(" ", impl.MaxSource) + "module m. f() -> 1.",
		"module m. f() -> X.", "module m. export f/0.", "module m. f() -> 1. f() -> 2.", "module m. f() -> g().", "module m. f(X) when g(X) -> 1.", "module m. f(X + 1) -> 1.", "module m. f() -> self(1).", "module m. f() -> receive X + 1 -> 1 end.",
	} {
		for _, acts := range [][]impl.Act{nil, start, {{Kind: 9}}} {
			if code := runCode(t, text, acts); code != impl.ErrBad {
				t.Errorf("%.40q: code %d", text, code)
			}
		}
	}
	// Texts whose code has as many instructions as it may, and one more.
	for n, want := range map[int]int{impl.MaxIns: impl.OK, impl.MaxIns + 1: impl.ErrBad} {
		text, code := impl.Print(flat(longModule(t, n)))
		if code != impl.OK || runCode(t, text, nil) != want {
			t.Error(n, code)
		}
	}
	for _, text := range []string{"module m.", plainText, "module end_. main() -> 1. % words"} {
		if code := runCode(t, text, nil); code != impl.OK {
			t.Error(text, code)
		}
	}
	r := nodeRun(t, "module m.", nil)
	if !zeroReport(r) {
		t.Error(reportText(r))
	}
}

// Acts that are none: each field that is not named and not zero, numbers and Kinds beyond their bounds, terms that are not right.
func TestActsThatAreNone(t *testing.T) {
	one := num(1)
	good := []impl.Act{
		{Kind: impl.AcSpawn, Name: "loops", V: list()}, {Kind: impl.AcSpawn, Name: "", V: list()}, {Kind: impl.AcSpawn, Name: "No Name\xff", V: list(one)}, {Kind: impl.AcSpawn, Name: strings.Repeat("a", 99), V: list()},
		{Kind: impl.AcSpawn, Name: "loops", V: many(one, impl.MaxArgs)},
		{Kind: impl.AcSend, N: 0, V: one}, {Kind: impl.AcSend, N: 1<<63 - 1, V: one}, {Kind: impl.AcExit, N: 0, V: one}, {Kind: impl.AcExit, N: 1<<63 - 1, V: one},
		{Kind: impl.AcTick, N: 0}, {Kind: impl.AcTick, N: impl.MaxWait}, {Kind: impl.AcRun, N: 0}, {Kind: impl.AcRun, N: impl.MaxTurns}, {Kind: impl.AcRun, N: 1, V: impl.Term{Kids: []impl.Term{}}},
	}
	for _, a := range good {
		if code := runCode(t, plainText, []impl.Act{a}); code != impl.OK {
			t.Error(a, code)
		}
	}
	bad := []impl.Act{
		{}, {Kind: -1}, {Kind: 6}, {Kind: 1 << 40}, {Kind: 6, N: 1}, {Kind: 0, Name: "loops", V: list()},
		{Kind: impl.AcSpawn, Name: "loops"}, {Kind: impl.AcSpawn, Name: "loops", V: one}, {Kind: impl.AcSpawn, Name: "loops", V: tuple()}, {Kind: impl.AcSpawn, Name: "loops", V: dict()}, {Kind: impl.AcSpawn, Name: "loops", V: atom("a")},
		{Kind: impl.AcSpawn, Name: "loops", V: many(one, impl.MaxArgs+1)}, {Kind: impl.AcSpawn, N: 1, Name: "loops", V: list()}, {Kind: impl.AcSpawn, N: -1, Name: "loops", V: list()},
		{Kind: impl.AcSend, N: -1, V: one}, {Kind: impl.AcSend, N: 1, Name: "a", V: one}, {Kind: impl.AcSend, N: 1}, {Kind: impl.AcSend, N: -1 << 63, V: one},
		{Kind: impl.AcExit, N: -1, V: one}, {Kind: impl.AcExit, N: 1, Name: "a", V: one}, {Kind: impl.AcExit, N: 1},
		{Kind: impl.AcTick, N: -1}, {Kind: impl.AcTick, N: impl.MaxWait + 1}, {Kind: impl.AcTick, N: 1, Name: "a"}, {Kind: impl.AcTick, N: 1, V: one}, {Kind: impl.AcTick, V: impl.Term{S: "a"}}, {Kind: impl.AcTick, V: impl.Term{N: 1}}, {Kind: impl.AcTick, V: impl.Term{Kids: []impl.Term{one}}},
		{Kind: impl.AcRun, N: -1}, {Kind: impl.AcRun, N: impl.MaxTurns + 1}, {Kind: impl.AcRun, N: 1, Name: "a"}, {Kind: impl.AcRun, N: 1, V: one}, {Kind: impl.AcRun, V: impl.Term{S: "a"}}, {Kind: impl.AcRun, V: impl.Term{Kids: []impl.Term{{}}}}, {Kind: impl.AcRun, N: 1 << 62},
	}
	for _, wrong := range wrongTerms() {
		bad = append(bad, impl.Act{Kind: impl.AcSpawn, Name: "loops", V: wrong}, impl.Act{Kind: impl.AcSpawn, Name: "loops", V: list(wrong)}, impl.Act{Kind: impl.AcSend, N: 1, V: wrong}, impl.Act{Kind: impl.AcExit, N: 1, V: wrong})
	}
	loop := impl.Act{Kind: impl.AcSpawn, Name: "loops", V: list()}
	for i, a := range bad {
		for _, acts := range [][]impl.Act{{a}, {loop, {Kind: impl.AcRun, N: 3}, a}, {a, loop}} {
			if code := runCode(t, plainText, acts); code != impl.ErrArg {
				t.Errorf("%d, act %d: code %d", i, a.Kind, code)
			}
		}
		if code := runCode(t, "module", []impl.Act{a}); code != impl.ErrBad {
			t.Error(i, code)
		}
	}
	// The number of acts is looked at ahead of them; MaxActs is accepted.
	ticks := slices.Repeat([]impl.Act{{Kind: impl.AcTick, N: 1}}, impl.MaxActs+1)
	if code := runCode(t, plainText, ticks); code != impl.ErrBad {
		t.Error(code)
	}
	ticks[3] = impl.Act{}
	if code := runCode(t, plainText, ticks); code != impl.ErrBad {
		t.Error(code)
	}
	if code := runCode(t, plainText, ticks[:impl.MaxActs]); code != impl.ErrArg {
		t.Error(code)
	}
	if r := nodeRun(t, plainText, ticks[4:]); r.Now != impl.MaxActs-3 {
		t.Error(reportText(r))
	}
}

// The first step of AcSpawn: functions that are exported and not, with as many arguments as they have.
func TestWhatIsSpawned(t *testing.T) {
	for acts, want := range map[string]string{
		"spawn open; run 9": "1 from #p0; 1: open; 1 ends normal", "spawn closed; run 9": "1 from #p0; 1: closed; 1 ends normal", "spawn says [5]; run 9": "1 from #p0; 1: 5; 1 ends normal", "spawn says [5, {x}]; run 9": "1 from #p0; 1: {5, {x}}; 1 ends normal",
		"spawn says; run 9": "", "spawn says [1, 2, 3]; run 9": "", "spawn none; run 9": "", "spawn open [1]; run 9": "", "spawn m:open; run 9": "", "spawn self; run 9": "", "spawn hd [[1]]; run 9": "", "spawn none; spawn open; run 9": "1 from #p0; 1: open; 1 ends normal",
		"spawn open; spawn closed; run 9": "1 from #p0; 2 from #p0; 1: open; 1 ends normal; 2: closed; 2 ends normal", "spawn open": "1 from #p0", "spawn open; tick 3; spawn open": "1 from #p0; @3 2 from #p0",
	} {
		r, code := impl.NodeRun(plainText, actsOf(acts))
		if code != impl.OK || told(r) != want {
			t.Errorf("%s tells %s", acts, told(r))
		}
		nodeRun(t, plainText, actsOf(acts))
	}
	// Twenty arguments.
	var names []string
	for n := range 20 {
		names = append(names, fmt.Sprint("A", n))
	}
	text := "module m. f(" + strings.Join(names, ", ") + ") -> say({A0, A19})."
	if r := nodeRun(t, text, []impl.Act{{Kind: impl.AcSpawn, Name: "f", V: term("[" + strings.Repeat("x, ", 19) + "y]")}, {Kind: impl.AcRun, N: 1}}); told(r) != "1 from #p0; 1: {x, y}; 1 ends normal" {
		t.Error(told(r))
	}
}

// AcSend and AcExit: to one who lives, has ended, was never born; 0 is nobody.
func TestSendAndExit(t *testing.T) {
	forms := "says() -> trap_exit(true), heard(). heard() -> receive X -> say(X), heard() end. waits() -> receive never -> 1 end. ends() -> x."
	for acts, want := range map[string]string{
		"spawn says; run 1; send 1 {x, 1}; run 1":             "1 from #p0; 1: {x, 1}",
		"spawn says; send 1 a; send 1 b; run 1":               "1 from #p0; 1: a; 1: b",
		"send 1 a; spawn says; run 1":                         "1 from #p0",
		"send 0 a; spawn says; send 2 a; run 1":               "1 from #p0",
		"spawn ends; run 1; send 1 a; exit 1 why":             "1 from #p0; 1 ends normal",
		"spawn waits; run 1; exit 1 why; exit 1 why":          "1 from #p0; 1 ends why",
		"spawn waits; exit 1 normal; exit 1 kill":             "1 from #p0; 1 ends killed",
		"spawn waits; exit 0 why; exit 2 why; run 9":          "1 from #p0",
		"spawn says; run 1; exit 1 why; run 1":                "1 from #p0; 1: {exit, #p0, why}",
		"spawn says; run 1; exit 1 normal; run 1":             "1 from #p0; 1: {exit, #p0, normal}",
		"spawn says; run 1; exit 1 kill; run 1":               "1 from #p0; 1 ends killed",
		"spawn says; exit 1 why; run 1":                       "1 from #p0; 1 ends why",
		"spawn waits; tick 4; exit 1 {x, [1]}; tick 4":        "1 from #p0; @4 1 ends {x, [1]}",
		"spawn waits; spawn waits; run 2; exit 2 a; exit 1 b": "1 from #p0; 2 from #p0; 2 ends a; 1 ends b",
	} {
		tells(t, forms, acts, want)
	}
	// The letter of a signal from nobody that is too deep is none.
	deep := []impl.Act{{Kind: impl.AcSpawn, Name: "says", V: list()}, {Kind: impl.AcRun, N: 1}, {Kind: impl.AcExit, N: 1, V: nest99()}, {Kind: impl.AcExit, N: 1, V: nest(atom("x"), 98)}, {Kind: impl.AcRun, N: 1}}
	if r := nodeRun(t, "module m. "+forms, deep); len(r.Events) != 2 || r.Events[1].Kind != impl.EvSay {
		t.Error(told(r))
	}
}

// AcRun: turns, or fewer when nobody is ready.
func TestRuns(t *testing.T) {
	loops := "loops() -> loops(). waits() -> receive never -> 1 end."
	shows(t, loops, "spawn loops; run 0", "1 ready steps 0")
	shows(t, loops, "spawn loops; run 200", "1 ready steps 10000")
	shows(t, loops, "spawn loops; spawn loops; run 3", "1 ready steps 100; 2 ready steps 50")
	shows(t, loops, "spawn waits; run 200; send 1 a; run 200", "1 waits [a] steps 5")
	r := shows(t, loops, "run 200; spawn waits; run 200; run 200", "1 waits steps 3")
	if r.Since != 1 {
		t.Error(r.Since)
	}
	// As many turns as there may be.
	acts := append(actsOf("spawn loops"), slices.Repeat(actsOf("run 200"), 99)...)
	full, code := impl.NodeRun("module m. "+loops, acts)
	if code != impl.OK || full.Procs[0].Steps != 99*200*50 || full.Since != 99*200 {
		t.Error(reportText(full))
	}
}

// The report: what is told with the clock, what is seen of each process, who is ready.
func TestReports(t *testing.T) {
	forms := "main() -> trap_exit(true), priority(high), register(me, self()), spawn_link(fun waits/0), spawn_link(fun low/0), heard(). heard() -> receive {say, X} -> say(X), heard() end. low() -> priority(low), loops(). loops() -> loops(). waits() -> receive never -> 1 after 100 -> 2 end."
	r := lived(t, forms, "tick 5; spawn main; run 1; tick 6; send 1 a; send 1 {say, [1]}; send 2 #p9; run 30; send 1 b; spawn loops")
	want := "@5 1 from #p0; @5 2 from #p1; @5 3 from #p1; @11 1: [1]; @11 4 from #p0"
	if told(r) != want || r.Now != 11 {
		t.Error(reportText(r))
	}
	if got := seen(r); got != "1 ready high traps me [a, b] links 2 3 steps 32; 2 waits [#p9] links 1 steps 5; 3 ready low links 1 steps 1400; 4 ready steps 0" {
		t.Error(got)
	}
	if !slices.Equal(r.Ready, []int{1, 4, 3}) {
		t.Error(r.Ready)
	}
	for i, e := range []impl.Event{{Now: 5, Kind: impl.EvSpawn, Pid: 1, V: pid(0)}, {Now: 5, Kind: impl.EvSpawn, Pid: 2, V: pid(1)}, {Now: 5, Kind: impl.EvSpawn, Pid: 3, V: pid(1)}, {Now: 11, Kind: impl.EvSay, Pid: 1, V: list(num(1))}} {
		if g := r.Events[i]; g.Now != e.Now || g.Kind != e.Kind || g.Pid != e.Pid || !same(g.V, e.V) {
			t.Error(i, g)
		}
	}
}

// MaxEvents, met exactly and passed by one; what is not told any more happens all the same.
func TestManyEvents(t *testing.T) {
	forms := "main(N) -> says(N). says(0) -> 0; says(N) -> say(N), says(N - 1)."
	for n, events := range map[int]int{397: 399, 398: 400, 399: 400, 450: 400} {
		r := nodeRun(t, "module m. "+forms, []impl.Act{{Kind: impl.AcSpawn, Name: "main", V: list(num(n))}, {Kind: impl.AcRun, N: 200}})
		if len(r.Events) != events || len(r.Procs) != 0 {
			t.Error(n, len(r.Events), seen(r))
		}
		last := r.Events[len(r.Events)-1]
		if _, ended := endOf(r, 1); ended != (n <= 398) || n > 398 && !same(last.V, num(n-398)) {
			t.Error(n, last)
		}
	}
}

// A module's own Funs, and Refs and Pids, as they are told.
func TestWhatIsToldIsTheTerm(t *testing.T) {
	for _, x := range anyTerms(100) {
		r := nodeRun(t, "module m. f(X) -> say(X), exit(X).", []impl.Act{{Kind: impl.AcSpawn, Name: "f", V: list(x)}, {Kind: impl.AcRun, N: 1}})
		if len(r.Events) != 3 || !same(r.Events[1].V, x) || !same(r.Events[2].V, x) {
			t.Error(texts([]impl.Term{x}), told(r))
		}
	}
}

// What Eval, Run and Calls answer is as it was: what is of processes is not pure there.
func TestProcessesAreNotPureElsewhereP7(t *testing.T) {
	tree := parsed(t, "module m. f(X) -> self() ! X. g() -> receive X -> X after 1 -> 2 end. h() -> [try F() catch _:V -> V end || F <- [fun self/0, fun now/0]].")
	code := compiled(t, tree)
	for name, want := range map[string]string{"f": "error not_pure", "g": "error not_pure", "h": "[not_pure, not_pure]"} {
		var args []impl.Term
		if name == "f" {
			args = []impl.Term{num(1)}
		}
		a, wrong := impl.Eval(tree, name, args, 1000)
		b, wrongToo := impl.Run(code, name, args, 1000)
		if wrong != impl.OK || wrongToo != impl.OK || shown(a) != want || !sameAnswer(a, b) {
			t.Error(name, shown(a), shown(b))
		}
	}
}

// When NodeRun answers, all goroutines of its processes have ended: of those who wait, are ready, had no turn yet, and have ended.
func TestGoroutinesHaveEnded(t *testing.T) {
	before := runtime.NumGoroutine()
	for range 50 {
		if code := runCode(t, plainText, actsOf("spawn loops; spawn waits; spawn waits; spawn open; spawn closed; run 9; exit 2 x; spawn loops; spawn waits")); code != impl.OK {
			t.Fatal(code)
		}
	}
	for range 100 {
		if runtime.NumGoroutine() <= before {
			return
		}
		time.Sleep(10 * time.Millisecond) // the last ones may just be on their way out
	}
	t.Error(before, "goroutines before,", runtime.NumGoroutine(), "behind")
}

// Nodes run side by side, and one text again and again, answer as one alone does.
func TestNodesSideBySide(t *testing.T) {
	acts := actsOf("spawn main; run 200")
	text := "module m. main() -> [spawn(fun() -> works(N) end) || N <- [9, 30, 2, 44]], works(50). works(0) -> say(self()); works(N) -> say(N), works(N - 1)."
	want := nodeRun(t, text, acts)
	done := make(chan impl.Report)
	for range 8 {
		go func() {
			r, _ := impl.NodeRun(text, acts)
			done <- r
		}()
	}
	for range 8 {
		if r := <-done; !sameReport(r, want) {
			t.Error(reportText(r))
		}
	}
}
