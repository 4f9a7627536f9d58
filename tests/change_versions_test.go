package tests

import (
	"fmt"
	"strings"
	"testing"

	"loop.example/g00019/impl"
)

const twoVersions = `keep. main() -> receive ask -> say(try m:version() catch error:V -> V end), main() end.
m. export version/0. version() -> one. hidden() -> say(hidden).
m. export version/0. version() -> two. more(X) -> say(X).
n. export version/0. version() -> en.
keep. main() -> say(other).`

// Numbers of loads, in order; what is kept back has none. One module in several texts, several modules.
func TestLoadsP17(t *testing.T) {
	changing(t, twoVersions,
		"load 1 => loads 1",
		"load 0 => loads 1",
		"load 1; load 1; load 1 => loads 1; loads 2; keeps m",
		"load 1; load 2; load 1; load 3; purge m; load 1; load 0; load 4; soft keep; load 4 => loads 1; loads 2; keeps m; loads 3; purges 0; loads 4; loads 5; keeps keep; purges 0; loads 6",
		"load 1; load 2; load 2; load 1; load 1 => loads 1; loads 2; keeps m; keeps m; keeps m",
		"tick 3; load 3; tick 4; load 3; tick 1; load 3; tick 2; purge n => @3 loads 1; @7 loads 2; @8 keeps n; @10 purges 0",
		// There is no old code.
		"purge m; soft m; purge keep; soft keep; purge none; soft none => ",
		"load 1; purge m; soft m; load 2; soft m; soft m; purge m; purge n => loads 1; loads 2; purges 0",
		"load 0; purge keep; purge keep; load 0; soft keep; soft keep => loads 1; purges 0; loads 2; purges 0",
		"load 1; load 3; load 3; purge m; soft m; purge n => loads 1; loads 2; loads 3; purges 0",
	)
}

// A call by module and name goes to the code that is current: undef ahead of the first, whatever was purged.
func TestCallsByNameP17(t *testing.T) {
	changing(t, twoVersions,
		"spawn main; send 1 ask; run 1; load 1; send 1 ask; run 1; load 2; send 1 ask; run 1; purge m; send 1 ask; run 1; load 1; send 1 ask; run 1; load 2; send 1 ask; run 1 => 1 from #p0; 1: undef; loads 1; 1: one; loads 2; 1: two; purges 0; 1: two; loads 3; 1: one; keeps m; 1: one",
		"spawn main; load 3; send 1 ask; run 1 => 1 from #p0; loads 1; 1: undef",
		// The call is made in the turn in which it is taken up.
		"spawn main; send 1 ask; load 1; load 2; run 1 => 1 from #p0; loads 1; loads 2; 1: two",
	)
	// To its own module's new code, to what is not exported, to a function of 4.3 with any module's name, to a module that was never loaded.
	modules := `a. export go/0, hd/1, version/0. go() -> receive ask -> say([X || F <- asks(), X <- [try F() catch error:V -> V end]]) end, go(). version() -> one. hd(X) -> {own, X}. tl(X) -> {own, X}. asks() -> [fun() -> a:version() end, fun() -> version() end, fun() -> a:tl([2]) end, fun() -> a:hd([1]) end, fun() -> hd([1]) end, fun() -> a:self() end, fun() -> c:version() end, fun() -> b:version() end, fun() -> b:hd([1]) end, fun() -> b:self() end, fun() -> b:abs(x) end, fun() -> b:version(1) end, fun() -> none:hd([1]) end].
a. export version/0, go/0, hd/1, tl/1. version() -> two. go() -> 1. hd(X) -> {new, X}. tl(X) -> {new, X}.
b. export abs/1. version() -> bee. self() -> own. abs(X) -> {bee, X}.`
	changing(t, modules,
		"spawn go; send 1 ask; run 9; load 1; send 1 ask; run 9; load 2; send 1 ask; run 9 => 1 from #p0; 1: [one, one, [], {own, [1]}, {own, [1]}, #p1, undef, undef, undef, undef, undef, undef, undef]; loads 1; 1: [two, one, {new, [2]}, {new, [1]}, {own, [1]}, #p1, undef, undef, undef, undef, undef, undef, undef]; loads 2; 1: [two, one, {new, [2]}, {new, [1]}, {own, [1]}, #p1, undef, undef, 1, #p1, {bee, x}, undef, undef]",
	)
	// A new version that no longer exports, or has, what the old one did.
	changing(t, "keep. main() -> receive ask -> say(try m:f() catch error:V -> V end), main() end.\nm. export f/0. f() -> one.\nm. f() -> two.\nm. g() -> 1.",
		"spawn main; load 1; load 2; send 1 ask; run 1; purge m; load 3; send 1 ask; run 1; purge m; load 1; send 1 ask; run 1 => 1 from #p0; loads 1; loads 2; 1: undef; purges 0; loads 3; 1: undef; purges 0; loads 4; 1: one")
}

// Calls and Funs stay in their own code while a new one is current, as long as it is there.
func TestWhoStaysInItsCodeP17(t *testing.T) {
	modules := `keep. main() -> m:start().
m. export start/0, version/0. start() -> F = fun() -> {local(), m:version()} end, loop(F, fun local/0). loop(F, G) -> receive ask -> say({local(), m:version(), F(), G()}), loop(F, G); leave -> m:start() end. local() -> mine(). mine() -> one. version() -> local().
m. export start/0, version/0. start() -> say(new). local() -> two. version() -> local().`
	changing(t, modules,
		"load 1; spawn main; send 1 ask; run 2; load 2; send 1 ask; run 2; send 1 leave; run 2 => loads 1; 1 from #p0; 1: {one, one, {one, one}, one}; loads 2; 1: {one, two, {one, two}, one}; 1: new; 1 ends normal",
		"load 1; spawn main; run 1; load 2; soft m; send 1 ask; run 2; purge m; soft m => loads 1; 1 from #p0; loads 2; keeps m; 1: {one, two, {one, two}, one}; 1 ends killed; purges 1",
		"load 1; load 2; purge m; spawn main; run 1; load 1; spawn main; run 1; send 2 ask; run 2; load 1; purge m; send 2 ask; run 2 => loads 1; loads 2; purges 0; 1 from #p0; 1: new; 1 ends normal; loads 3; 2 from #p0; 2: {one, one, {one, one}, one}; keeps m; purges 0; 2: {one, one, {one, one}, one}",
	)
	// One that goes on by its module's name leaves old code frame by frame: those below stay.
	changing(t, "m. export main/0. main() -> receive _ -> say(one), m:main() end.\nm. export main/0. main() -> receive _ -> say(two), m:main() end.",
		"spawn main; send 1 x; run 1; load 1; send 1 x; run 1; send 1 x; run 1; soft m; purge m => 1 from #p0; 1: one; loads 1; 1: one; 1: two; keeps m; 1 ends killed; purges 1")
}

// funPlaces is the places of what code makes Funs of: its NdRefers, and its NdFuns.
func funPlaces(t *testing.T, text string) (refers, funs []int) {
	t.Helper()
	code := compiled(t, parsed(t, text))
	for _, r := range code.Refers {
		refers = append(refers, r.Node)
	}
	for _, f := range code.Fns {
		if f.Name == "" {
			funs = append(funs, f.Node)
		}
	}
	return refers, funs
}

// The N of a Fun: the place, and MaxTree for each number of its code; told, sent, held against another's, called.
func TestFunsTellWhoseTheyAreP17(t *testing.T) {
	m := "m. export makes/0, version/0. makes() -> {fun version/0, fun() -> version() end, fun hd/1}. version() -> %s."
	modules := "keep. main() -> receive {to, P} -> P ! m:makes(), main(); {X, Y, Z} -> receive {A, B, C} -> say({X, A, X == A, X == X, [F() || F <- [X, Y, A, B]], [F([1]) || F <- [Z, C]]}), say([Y, B, Z, C]), main() end end.\n" + fmt.Sprintf(m, "one") + "\n" + fmt.Sprintf(m, "two")
	refers, funs := funPlaces(t, "module "+fmt.Sprintf(m, "one"))
	f := func(places []int, k, number int) string { return fmt.Sprintf("#f%d{}", places[k]+2000*number) }
	want := func(a, b int, one, two string) string {
		return fmt.Sprintf("2: {%s, %s, %v, true, [%s, %s, %s, %s], [1, 1]}; 2: [%s, %s, %s, %s]", f(refers, 0, a), f(refers, 0, b), a == b, one, one, two, two, f(funs, 0, a), f(funs, 0, b), f(refers, 1, a), f(refers, 1, b))
	}
	changing(t, modules,
		"spawn main; spawn main; load 1; send 1 {to, #p2}; run 9; send 1 {to, #p2}; run 9 => 1 from #p0; 2 from #p0; loads 1; "+want(1, 1, "one", "one"),
		"spawn main; spawn main; load 1; send 1 {to, #p2}; run 9; load 2; send 1 {to, #p2}; run 9 => 1 from #p0; 2 from #p0; loads 1; loads 2; "+want(1, 2, "one", "two"),
		"spawn main; spawn main; load 0; load 2; load 2; purge m; load 1; send 1 {to, #p2}; run 9; purge m; load 2; send 1 {to, #p2}; run 9 => 1 from #p0; 2 from #p0; loads 1; loads 2; loads 3; purges 0; loads 4; purges 0; loads 5; "+want(4, 5, "one", "two"),
	)
	// Code of number 0 makes Funs with N the place: so does the first text's, and no other.
	zero, _ := funPlaces(t, "module m. main() -> say(fun main/0).")
	changing(t, "m. main() -> say(fun main/0).", fmt.Sprintf("spawn main; run 1; load 0; spawn main; run 1 => 1 from #p0; 1: #f%d{}; 1 ends normal; loads 1; 2 from #p0; 2: #f%d{}; 2 ends normal", zero[0], 2000+zero[0]))
	// A Fun's place holds it together with what it has with it.
	text := "m. main(X) -> F = fun(Y) -> {X, Y} end, say(F), say(F(2))."
	_, held := funPlaces(t, "module "+text)
	changing(t, text, fmt.Sprintf("load 0; spawn main [7]; run 1 => loads 1; 1 from #p0; 1: #f%d{7}; 1: {7, 2}; 1 ends normal", 2000+held[0]))
}

// Funs of numbers that nothing was loaded with, of other places, of what was purged: badfun, with the Fun.
func TestFunsOfNoCodeP17(t *testing.T) {
	m := "m. export makes/0. makes() -> fun() -> 1 end."
	_, funs := funPlaces(t, "module "+m)
	f := func(number int) string { return fmt.Sprintf("#f%d{}", funs[0]+2000*number) }
	modules := "keep. main() -> calls(), main(). calls() -> receive {call, F} -> say(try F() catch C:V -> {C, V} end); {spawn, F} -> say(try spawn(F) catch C:V -> {C, V} end); put -> tab_new(t, log), tab_put(t, {1, m:makes()}); get -> say([try F() catch C:V -> {C, V} end || {_, F} <- tab_get(t, 1)]); later -> send_after(5, self(), {call, m:makes()}) end, [].\n" + m
	changing(t, modules,
		fmt.Sprintf("spawn main; load 1; send 1 {call, %s}; send 1 {call, %s}; send 1 {call, %s}; run 9 => 1 from #p0; loads 1; 1: {error, {badfun, %s}}; 1: 1; 1: {error, {badfun, %s}}", f(0), f(1), f(2), f(0), f(2)),
		fmt.Sprintf("spawn main; send 1 {call, %s}; run 9; load 1; send 1 {call, %s}; run 9 => 1 from #p0; 1: {error, {badfun, %s}}; loads 1; 1: 1", f(1), f(1), f(1)),
		fmt.Sprintf("spawn main; load 1; send 1 {call, #f%d{}}; send 1 {call, #f%d{1}}; send 1 {call, #f1000000000000000{}}; run 9 => 1 from #p0; loads 1; 1: {error, {badfun, #f%d{}}}; 1: {error, {badfun, #f%d{1}}}; 1: {error, {badfun, #f1000000000000000{}}}", funs[0]+2001, funs[0]+2000, funs[0]+2001, funs[0]+2000),
		fmt.Sprintf("spawn main; load 1; send 1 {spawn, %s}; send 1 {spawn, %s}; run 9; load 1; send 1 {spawn, %s}; run 9 => 1 from #p0; loads 1; 2 from #p1; 1: #p2; 1: {error, badarg}; 2 ends normal; loads 2; 3 from #p1; 1: #p3; 3 ends normal", f(1), f(2), f(1)),
		// Called while its code is old, and when that is gone. (Nobody uses it: it is in a table, or a timer.)
		fmt.Sprintf("spawn main; load 1; send 1 put; run 1; load 1; send 1 get; run 1; purge m; send 1 get; run 2 => 1 from #p0; loads 1; loads 2; 1: [1]; purges 0; 1: [{error, {badfun, %s}}]", f(1)),
		fmt.Sprintf("spawn main; load 1; send 1 later; run 1; load 1; soft m; tick 5; run 1 => 1 from #p0; loads 1; loads 2; purges 0; @5 1: {error, {badfun, %s}}", f(1)),
		"spawn main; load 1; send 1 later; run 1; load 1; tick 5; soft m; run 1; soft m => 1 from #p0; loads 1; loads 2; @5 keeps m; @5 1: 1; @5 purges 0",
		fmt.Sprintf("spawn main; load 1; load 1; purge m; send 1 {spawn, %s}; send 1 {call, %s}; run 9 => 1 from #p0; loads 1; loads 2; purges 0; 1: {error, badarg}; 1: {error, {badfun, %s}}", f(1), f(1), f(1)),
	)
}

// In a node of one text nothing but that was loaded: Funs of other numbers are none.
func TestFunsInOneTextP17(t *testing.T) {
	text := "module m. main() -> receive F -> say([try F() catch C:V -> {C, V} end, try spawn(F) catch C:V -> {C, V} end]), main() end. makes() -> fun() -> one end."
	_, funs := funPlaces(t, text)
	for _, n := range []int{funs[0], funs[0] + 2000, funs[0] + 4000, funs[0] + 1, impl.MaxInt} {
		want := fmt.Sprintf("1 from #p0; 1: [{error, {badfun, #f%d{}}}, {error, badarg}]", n)
		if n == funs[0] {
			want = "1 from #p0; 2 from #p1; 1: [one, #p2]; 2 ends normal"
		}
		acts := actsOf(fmt.Sprintf("spawn main; send 1 #f%d{}; run 9", n))
		for _, r := range []impl.Report{nodeRun(t, text, acts), changeRun(t, []string{text}, acts)} {
			if told(r) != want {
				t.Errorf("%d tells %s, not %s", n, told(r), want)
			}
		}
	}
}

// Names that are made when the machine runs are chapter 10's: a process's, whichever code it runs.
func TestNamesWhileRunningP17(t *testing.T) {
	changing(t, "m. export main/0. main() -> register(a, self()), P = spawn(fun waits/0), register(b, P), a ! one, {b, local} ! two, {b, far} ! three, receive X -> say(X) end, say([whereis(a), whereis(b), node()]). waits() -> receive X -> say({X, one}) end.\nm. export main/0. main() -> 1. waits() -> receive X -> say({X, new}) end.",
		"spawn main; load 1; run 9 => 1 from #p0; loads 1; 2 from #p1; 1: one; 1: [#p1, #p2, local]; 1 ends normal; 2: {two, one}; 2 ends normal")
	// spawn of what is referred to: the code's own function, not that of 4.3.
	changing(t, "keep. main() -> receive go -> say(try spawn(m:makes()) catch error:V -> V end), main() end.\nm. export makes/0. makes() -> fun self/0. self() -> say(own).\nm. export makes/0. makes() -> fun self/0.",
		"spawn main; load 1; send 1 go; run 9; load 2; send 1 go; run 9 => 1 from #p0; loads 1; 2 from #p1; 1: #p2; 2: own; 2 ends normal; loads 2; 1: badarg")
}

// AcSpawn: Names with and without a colon.
func TestSpawnsByNameP17(t *testing.T) {
	none := ""
	for acts, want := range map[string]string{
		"spawn main; send 1 ask; run 2": "1 from #p0; 1: undef", "spawn keep:main; send 1 ask; run 2": "1 from #p0; 1: undef", "spawn m:version": none, "load 1; spawn m:version; run 1": "loads 1; 1 from #p0; 1 ends normal", "spawn m:version; load 1; run 1": "loads 1",
		"load 1; spawn m:hidden; run 1": "loads 1; 1 from #p0; 1: hidden; 1 ends normal", "load 1; load 2; spawn m:hidden; run 1": "loads 1; loads 2", "load 1; load 2; spawn m:more [5]; run 1": "loads 1; loads 2; 1 from #p0; 1: 5; 1 ends normal", "load 2; spawn m:more; spawn m:more [1, 2]": "loads 1", "load 1; spawn m:more [5]": "loads 1",
		"load 1; spawn hidden": "loads 1", "load 1; spawn version": "loads 1", "load 1; spawn n:version": "loads 1", "spawn none:main": none, "spawn keep:none": none, "spawn keep:main [1]": none, "spawn keep:self": none, "spawn self": none, "spawn keep:hd [[1]]": none,
		"spawn keep:main:x": none, "spawn keep:keep:main": none, "spawn keep:main:": none, "spawn :keep:main": none, "spawn ::main": none, "spawn :": none, "spawn :main": none, "spawn keep:": none, "spawn keep": none, "load 1; spawn m:m:version": "loads 1",
		// A function of the first text's module is one of its current code.
		"load 4; spawn main; run 1": "loads 1; 1 from #p0; 1: other; 1 ends normal", "load 4; purge keep; spawn keep:main; run 1": "loads 1; purges 0; 1 from #p0; 1: other; 1 ends normal", "spawn main; load 4; spawn main; run 2": "1 from #p0; loads 1; 2 from #p0; 2: other; 2 ends normal",
	} {
		changing(t, twoVersions, acts+" => "+want)
	}
	// What is spawned runs what was current at the act, in its first turn, too.
	changing(t, "keep. main() -> say(one).\nkeep. main() -> say(two).",
		"spawn main; load 1; spawn main; run 2 => 1 from #p0; loads 1; 2 from #p0; 1: one; 1 ends normal; 2: two; 2 ends normal",
		"spawn main; load 1; purge keep; spawn main; run 2 => 1 from #p0; loads 1; 1 ends killed; purges 1; 2 from #p0; 2: two; 2 ends normal")
	// MaxProcs.
	acts := append(actsOf(strings.TrimSuffix(strings.Repeat("spawn keep:main; ", impl.MaxProcs+1), "; ")), actsOf("run 60; load 1; spawn m:version; exit 3 x; spawn m:version; run 1")...)
	if r := changeRun(t, modulesOf(twoVersions), acts); len(r.Procs) != impl.MaxProcs-1 || !strings.HasSuffix(told(r), "60 from #p0; loads 1; 3 ends x; 61 from #p0; 61 ends normal") {
		t.Error(reportText(r))
	}
}
