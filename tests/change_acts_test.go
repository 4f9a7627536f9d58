package tests

import (
	"fmt"
	"runtime"
	"slices"
	"strings"
	"testing"
	"time"

	"loop.example/g00019/impl"
)

const goodText = "module m. export f/0. f() -> say(f). loops() -> loops(). waits() -> receive never -> 1 end."

// Texts: none, as many as there may be and one more, with a fault at each place; ErrBad is ahead of what is wrong with the acts.
func TestTextsOfChangeP17(t *testing.T) {
	start := actsOf("spawn f; run 1; load 0")
	bad := []impl.Act{{Kind: 9}}
	for _, acts := range [][]impl.Act{nil, start, bad} {
		if code := codeOfChange(t, nil, acts); code != impl.ErrBad {
			t.Error(code)
		}
		if code := codeOfChange(t, []string{}, acts); code != impl.ErrBad {
			t.Error(code)
		}
	}
	good := slices.Repeat([]string{goodText}, impl.MaxMods+1)
	for n, want := range map[int]int{1: impl.OK, 2: impl.OK, impl.MaxMods - 1: impl.OK, impl.MaxMods: impl.OK, impl.MaxMods + 1: impl.ErrBad} {
		if code := codeOfChange(t, good[:n], start); code != want {
			t.Error(n, code)
		}
	}
	many := append(good, slices.Repeat([]string{"module"}, 1000)...)
	if code := codeOfChange(t, many, nil); code != impl.ErrBad {
		t.Error(code)
	}
	if r := changeRun(t, good[:impl.MaxMods], actsOf("load 19; spawn f; run 1")); told(r) != "loads 1; 1 from #p0; 1: f; 1 ends normal" {
		t.Error(told(r))
	}
	faulty := []string{
		"", "module", "module M. f() -> 1.", "module m. f() -> .", "module m. f() -> 1. x", strings.Repeat(" ", impl.MaxSource) + "module m.", "module m. f() -> X.", "module m. export f/0.", "module m. f() -> 1. f() -> 2.", "module m. f() -> g().", "module m. f() -> m:g().", "module m. f(X + 1) -> 1.", longText(t, impl.MaxIns+1),
	}
	for i, text := range faulty {
		for _, n := range []int{1, 2, 5, impl.MaxMods} {
			for _, at := range []int{0, n / 2, n - 1} {
				texts := slices.Clone(good[:n])
				texts[at] = text
				for _, acts := range [][]impl.Act{nil, start, bad} {
					if code := codeOfChange(t, texts, acts); code != impl.ErrBad {
						t.Error(i, n, at, code)
					}
				}
			}
		}
	}
	for _, text := range []string{"module m.", "module end_. main() -> 1. % words", "module m. f() -> other:g(1).", longText(t, impl.MaxIns)} {
		if code := codeOfChange(t, []string{goodText, text}, actsOf("load 1; load 0")); code != impl.OK {
			t.Error(text, code)
		}
	}
	if r := changeRun(t, []string{"module m."}, nil); !zeroReport(r) {
		t.Error(reportText(r))
	}
}

// longText is a text whose code has so many instructions.
func longText(t *testing.T, count int) string {
	t.Helper()
	text, code := impl.Print(flat(longModule(t, count)))
	if code != impl.OK {
		t.Fatal(code)
	}
	return text
}

// The acts of code: each field as it may be and as it may not.
func TestActsOfCodeP17(t *testing.T) {
	texts := []string{goodText, "module n.", goodText}
	one := num(1)
	for _, a := range []impl.Act{
		{Kind: impl.AcLoad}, {Kind: impl.AcLoad, N: 1}, {Kind: impl.AcLoad, N: 2}, {Kind: impl.AcLoad, V: impl.Term{Kids: []impl.Term{}}},
		{Kind: impl.AcPurge}, {Kind: impl.AcPurge, Name: "m"}, {Kind: impl.AcPurge, Name: "none"}, {Kind: impl.AcPurge, Name: "No name\xff"}, {Kind: impl.AcPurge, Name: "m:f"}, {Kind: impl.AcPurge, Name: strings.Repeat("a", 99)}, {Kind: impl.AcPurge, Name: "m", V: impl.Term{Kids: []impl.Term{}}},
		{Kind: impl.AcSoft}, {Kind: impl.AcSoft, Name: "m"}, {Kind: impl.AcSoft, Name: "none"}, {Kind: impl.AcSoft, Name: "No name\xff"}, {Kind: impl.AcSoft, Name: "m:f"}, {Kind: impl.AcSoft, Name: strings.Repeat("a", 99)},
		{Kind: impl.AcSpawn, Name: "m:f", V: list()}, {Kind: impl.AcSpawn, Name: ":", V: list()}, {Kind: impl.AcSpawn, Name: "a:b:c", V: list(one)}, {Kind: impl.AcSpawn, Name: "", V: many(one, impl.MaxArgs)},
		{Kind: impl.AcSend, N: 1, V: one}, {Kind: impl.AcExit, N: 1, V: one}, {Kind: impl.AcTick, N: impl.MaxWait}, {Kind: impl.AcRun, N: impl.MaxTurns},
	} {
		changeRun(t, texts, []impl.Act{a})
		changeRun(t, texts, append(actsOf("load 0; load 1; spawn loops; run 2; load 1"), a))
	}
	bad := []impl.Act{
		{}, {Kind: -1}, {Kind: 9}, {Kind: 1 << 40}, {Kind: 9, N: 1}, {Kind: 0, Name: "m"},
		{Kind: impl.AcLoad, N: -1}, {Kind: impl.AcLoad, N: 3}, {Kind: impl.AcLoad, N: 1 << 62}, {Kind: impl.AcLoad, N: -1 << 63}, {Kind: impl.AcLoad, Name: "m"}, {Kind: impl.AcLoad, N: 1, Name: "m"}, {Kind: impl.AcLoad, N: 1, V: one}, {Kind: impl.AcLoad, V: impl.Term{N: 1}}, {Kind: impl.AcLoad, V: impl.Term{S: "a"}}, {Kind: impl.AcLoad, V: impl.Term{Kids: []impl.Term{{}}}}, {Kind: impl.AcLoad, V: list()},
		{Kind: impl.AcPurge, N: 1, Name: "m"}, {Kind: impl.AcPurge, N: -1, Name: "m"}, {Kind: impl.AcPurge, Name: "m", V: one}, {Kind: impl.AcPurge, Name: "m", V: list()}, {Kind: impl.AcPurge, Name: "m", V: impl.Term{N: 1}}, {Kind: impl.AcPurge, Name: "m", V: impl.Term{S: "a"}}, {Kind: impl.AcPurge, N: 1}, {Kind: impl.AcPurge, Name: "m", V: impl.Term{Kids: []impl.Term{one}}},
		{Kind: impl.AcSoft, N: 1, Name: "m"}, {Kind: impl.AcSoft, N: -1, Name: "m"}, {Kind: impl.AcSoft, Name: "m", V: one}, {Kind: impl.AcSoft, Name: "m", V: list()}, {Kind: impl.AcSoft, Name: "m", V: impl.Term{N: 1}}, {Kind: impl.AcSoft, Name: "m", V: impl.Term{S: "a"}}, {Kind: impl.AcSoft, N: 1}, {Kind: impl.AcSoft, Name: "m", V: impl.Term{Kids: []impl.Term{one}}},
		{Kind: impl.AcSpawn, Name: "m:f"}, {Kind: impl.AcSpawn, Name: "m:f", V: one}, {Kind: impl.AcSpawn, N: 1, Name: "m:f", V: list()}, {Kind: impl.AcSpawn, Name: "m:f", V: many(one, impl.MaxArgs+1)},
		{Kind: impl.AcSend, N: -1, V: one}, {Kind: impl.AcSend, N: 1, Name: "a", V: one}, {Kind: impl.AcExit, N: 1}, {Kind: impl.AcTick, N: -1}, {Kind: impl.AcTick, N: impl.MaxWait + 1}, {Kind: impl.AcRun, N: impl.MaxTurns + 1}, {Kind: impl.AcRun, N: 1, V: one}, {Kind: impl.AcRun, N: 1, Name: "m"},
	}
	for _, wrong := range wrongTerms() {
		bad = append(bad, impl.Act{Kind: impl.AcSpawn, Name: "m:f", V: list(wrong)}, impl.Act{Kind: impl.AcSend, N: 1, V: wrong}, impl.Act{Kind: impl.AcExit, N: 1, V: wrong})
	}
	some := actsOf("load 0; spawn loops; run 3")
	for i, a := range bad {
		for _, acts := range [][]impl.Act{{a}, append(slices.Clone(some), a), append([]impl.Act{a}, some...)} {
			if code := codeOfChange(t, texts, acts); code != impl.ErrArg {
				t.Errorf("%d, act %d: code %d", i, a.Kind, code)
			}
		}
		for _, texts := range [][]string{nil, {goodText, "module"}} {
			if code := codeOfChange(t, texts, []impl.Act{a}); code != impl.ErrBad {
				t.Error(i, code)
			}
		}
	}
	// NodeRun knows none of them.
	for _, a := range []impl.Act{{Kind: impl.AcLoad}, {Kind: impl.AcPurge, Name: "m"}, {Kind: impl.AcSoft, Name: "m"}} {
		if code := runCode(t, goodText, []impl.Act{a}); code != impl.ErrArg {
			t.Error(a, code)
		}
	}
}

// MaxActs, met exactly and passed by one, which is looked at ahead of the acts.
func TestManyActsOfCodeP17(t *testing.T) {
	acts := slices.Repeat(actsOf("load 0; purge m"), impl.MaxActs)
	if code := codeOfChange(t, []string{goodText}, acts[:impl.MaxActs+1]); code != impl.ErrBad {
		t.Error(code)
	}
	r := changeRun(t, []string{goodText}, acts[:impl.MaxActs])
	if len(r.Events) != impl.MaxActs || !strings.HasSuffix(told(r), "; loads 50; purges 0") {
		t.Error(told(r))
	}
	acts[3] = impl.Act{}
	if code := codeOfChange(t, []string{goodText}, acts[:impl.MaxActs+1]); code != impl.ErrBad {
		t.Error(code)
	}
	if code := codeOfChange(t, []string{goodText}, acts[:impl.MaxActs]); code != impl.ErrArg {
		t.Error(code)
	}
	// As many loads as there may be: the Funs of each tell its number.
	refers, _ := funPlaces(t, "module m. f() -> say(fun f/0).")
	loads := append(slices.Repeat(actsOf("load 0; soft m"), 49), actsOf("spawn f; run 1")...)
	if r := changeRun(t, []string{"module m. f() -> say(fun f/0)."}, loads); !strings.HasSuffix(told(r), fmt.Sprintf("; loads 49; purges 0; 1 from #p0; 1: #f%d{}; 1 ends normal", refers[0]+49*2000)) {
		t.Error(told(r))
	}
}

// MaxEvents, met exactly and passed by one: what is not told any more happens all the same.
func TestManyEventsOfCodeP17(t *testing.T) {
	texts := []string{"module m. says(0) -> 0; says(N) -> say(N), says(N - 1). main() -> receive ask -> say(one) end. waits() -> receive never -> 1 end.", "module m. main() -> receive ask -> say(two) end. waits() -> receive never -> 1 end."}
	for n, want := range map[int]string{390: "waits", 393: "full", 394: "more", 400: "more"} {
		acts := append([]impl.Act{{Kind: impl.AcSpawn, Name: "says", V: list(num(n))}}, actsOf("run 200; spawn waits; run 1; load 1; load 1; purge m; soft m; spawn main; send 3 ask; run 1")...)
		r := changeRun(t, texts, acts)
		// n times said, and 2 of that process; 2 loads, a keep, the end and the purge of the other; the last one's 3.
		events := min(n+2+1+1+1+1+1+3, impl.MaxEvents)
		if len(r.Events) != events || len(r.Procs) != 0 {
			t.Error(n, want, len(r.Events), reportText(r))
		}
	}
}

// When Change answers, all goroutines of its processes have ended: of those that were killed by a purge, too.
func TestGoroutinesOfChangeHaveEndedP17(t *testing.T) {
	before := runtime.NumGoroutine()
	for range 50 {
		if code := codeOfChange(t, []string{goodText, goodText}, actsOf("spawn loops; spawn waits; spawn waits; run 9; load 1; spawn loops; spawn waits; soft m; purge m; spawn loops; spawn waits; run 2; load 0; spawn f")); code != impl.OK {
			t.Fatal(code)
		}
	}
	for range 100 {
		if runtime.NumGoroutine() <= before {
			return
		}
		time.Sleep(10 * time.Millisecond) // the last ones may just be on their way out
	}
	t.Error(before, "goroutines before,", runtime.NumGoroutine(), "behind")
}

// Nodes whose code is changed side by side answer as one alone does.
func TestChangesSideBySideP17(t *testing.T) {
	t.Parallel()
	texts := modulesOf(twoVersions)
	acts := actsOf("spawn main; spawn main; load 1; send 1 ask; run 3; load 2; send 1 ask; send 2 ask; run 4; purge m; load 1; spawn m:hidden; run 4")
	want := changeRun(t, texts, acts)
	done := make(chan impl.Report)
	for range 8 {
		go func() {
			r, _ := impl.Change(texts, acts)
			done <- r
		}()
	}
	for range 8 {
		if r := <-done; !sameReport(r, want) {
			t.Error(reportText(r))
		}
	}
}
