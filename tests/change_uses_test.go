package tests

import (
	"fmt"
	"slices"
	"strings"
	"testing"

	"loop.example/g00019/impl"
)

// usersOf asks of rows of bodies of main, with => behind each, how many processes use the code of m that is old when all are waiting or
// have ended; AcSoft has to say the same.
func usersOf(t *testing.T, rows ...string) {
	t.Helper()
	for _, row := range rows {
		at := strings.LastIndex(row, " => ") // maps have arrows, too
		body, want := row[:at], row[at+len(" => "):]
		texts := modulesOf("keep. main() -> " + body + `. waits() -> receive never -> 1 end. id(X) -> X. sends(P, X) -> P ! X, sent.
m. export makes/0, waits/0, goes/1, version/0, calls/1. makes() -> fun() -> 1 end. waits() -> receive never -> 1 end. goes(X) -> n:goes(X). version() -> one. calls(F) -> F().
n. export goes/1, makes/0. goes(F) -> F(). makes() -> fun() -> 2 end.`)
		begin := "load 1; load 2; spawn main; run 30; load 1; load 2; "
		hard := changeRun(t, texts, actsOf(begin+"purge m"))
		soft := changeRun(t, texts, actsOf(begin+"soft m; soft m"))
		got := hard.Events[len(hard.Events)-1]
		if got.Kind != impl.EvPurge || got.Pid != 0 || fmt.Sprint(got.V.N) != want || !same(got.V, num(got.V.N)) {
			t.Errorf("%s\nuses: %s, not %s", body, told(hard), want)
		}
		told := soft.Events[slices.IndexFunc(soft.Events, func(e impl.Event) bool { return e.Kind == impl.EvLoad && e.V.N == 4 })+1:]
		first := impl.Event{Kind: impl.EvPurge, V: num(0)}
		number := 1
		if want != "0" {
			first, number = impl.Event{Kind: impl.EvKeep, V: atom("m")}, 2
		}
		if len(told) != number || told[0].Kind != first.Kind || told[0].Pid != 0 || !same(told[0].V, first.V) {
			t.Errorf("%s\nsoftly: %v", body, told)
		}
	}
}

// Frames: the one that runs, those below, of processes that wait, are ready, have no turn yet.
func TestFramesUseCodeP17(t *testing.T) {
	usersOf(t,
		"m:waits() => 1", "waits() => 0", "m:version(), waits() => 0", "m:goes(fun waits/0) => 1", "n:goes(fun waits/0) => 0", "{x, m:waits()} => 1", "try m:waits() catch _:_ -> 1 end => 1", "m:calls(fun() -> m:calls(fun waits/0) end) => 1",
		"m:version() => 0", "m:version(), exit(why) => 0", "exit(m:makes()) => 0",
		"spawn(fun() -> m:waits() end), spawn(fun() -> m:waits() end), waits() => 2", "spawn(fun() -> m:waits() end), m:waits() => 2", "spawn_link(fun() -> m:waits() end), waits() => 1",
	)
	changing(t, `keep. main() -> m:loop(). gets(X) -> X. spawns() -> spawn(m:makes()), ends.
m. export loop/0, makes/0. loop() -> loop(). makes() -> fun() -> 1 end.
m. export loop/0. loop() -> 2.`,
		// Ready, in the midst of its steps.
		"load 1; spawn main; run 3; load 2; soft m; purge m => loads 1; 1 from #p0; loads 2; keeps m; 1 ends killed; purges 1",
		// Ahead of the first turn: what it is to run, and to be called with.
		"load 1; spawn m:loop; load 2; soft m; purge m; run 5 => loads 1; 1 from #p0; loads 2; keeps m; 1 ends killed; purges 1",
		"load 1; spawn m:loop; load 2; spawn m:loop; purge m; run 1 => loads 1; 1 from #p0; loads 2; 2 from #p0; 1 ends killed; purges 1; 2 ends normal",
		"load 1; spawn main; load 2; soft m; run 1 => loads 1; 1 from #p0; loads 2; purges 0; 1 ends normal",
		"load 1; spawn spawns; run 1; load 2; soft m; purge m; run 1 => loads 1; 1 from #p0; 2 from #p1; 1 ends normal; loads 2; keeps m; 2 ends killed; purges 1",
		"load 1; spawn gets [#f2000{}]; load 2; soft m; purge m; run 1 => loads 1; 1 from #p0; loads 2; keeps m; 1 ends killed; purges 1",
		"load 1; spawn gets [[#f1999{}, #f4000{}]]; load 2; soft m; run 1 => loads 1; 1 from #p0; loads 2; purges 0; 1 ends normal",
	)
}

// Funs in slots (those, too, of variables that are bound no more, as long as nothing else is stored there), on stacks, within terms.
func TestFunsUseCodeP17(t *testing.T) {
	usersOf(t,
		"F = m:makes(), waits(), F => 1", "F = m:makes(), waits() => 1", "begin F = m:makes(), 1 end, waits() => 1", "begin F = m:makes(), 1 end, begin G = 5, waits() end => 0", "case m:makes() of F -> F end, waits() => 1", "case m:makes() of _ -> waits() end => 0", "(fun(F) -> waits() end)(m:makes()) => 1", "F = m:makes(), (fun() -> {waits(), F} end)() => 1", "id(m:makes()), waits() => 0", "m:makes(), waits() => 0",
		"{m:makes(), waits()} => 1", "[waits(), m:makes()] => 0", "[m:makes(), 1, waits()] => 1", "[m:makes() | waits()] => 1", "#{a => m:makes(), b => waits()} => 1", "m:makes() == waits() => 1", "waits() == m:makes() => 0", "id({m:makes(), waits()}) => 1", "try m:makes() catch throw:_ -> 1 after waits() end => 1", "try exit(m:makes()) catch throw:_ -> 1 after waits() end => 1", "try exit(m:makes()) catch exit:F -> waits() end => 1", "try exit(m:makes()) catch exit:_ -> waits() end => 0", "[waits() || _ <- [m:makes()]] => 1", "[F || F <- [m:makes(), 2], waits()] => 1", "[case N of 1 -> m:makes(); _ -> waits() end || N <- [1, 2]] => 1",
		// Within terms.
		"F = [1, {x, [m:makes()]}], waits(), F => 1", "F = #{1 => #{m:makes() => x}}, waits(), F => 1", "F = #{a => [m:makes()]}, waits(), F => 1", "F = m:makes(), G = fun() -> F end, F = m:makes(), waits(), G => 1", "G = (fun() -> F = m:makes(), fun() -> F end end)(), waits(), G => 1", "G = (fun() -> F = m:makes(), fun() -> {F} end end)(), [1, G, waits()] => 1",
		// Of others, or none.
		"F = n:makes(), waits(), F => 0", "F = fun waits/0, waits(), F => 0", "F = term_to_binary(m:makes()), waits(), F => 0", "F = hash(m:makes()), waits(), F => 0", "F = 2005, waits(), F => 0", "F = make_ref(), waits(), F => 0",
		// In tables and timers.
		"tab_new(t, set), tab_put(t, {1, m:makes()}), waits() => 0", "tab_new(t, set), tab_put(t, {m:makes()}), tab_get(t, 1), waits() => 0", "send_after(9, self(), m:makes()), waits() => 0", "send_after(9, self(), m:makes()), receive X -> 1 after 9 -> 2 end => 0",
		// In letters: not taken, ahead of the save point, taken.
		"self() ! m:makes(), waits() => 1", "self() ! {x, [m:makes()]}, self() ! 5, waits() => 1", "self() ! 5, self() ! m:makes(), waits() => 1", "self() ! m:makes(), receive never -> 1 end => 1", "self() ! m:makes(), receive _ -> waits() end => 0", "self() ! m:makes(), receive F -> waits() end => 1", "self() ! m:makes(), self() ! 5, receive 5 -> waits() end => 1", "sends(spawn(fun waits/0), m:makes()), waits() => 1", "sends(spawn(fun() -> receive _ -> waits() end end), m:makes()), waits() => 0", "sends(spawn(fun() -> 1 end), m:makes()), waits() => 0",
		// More than one way, and more than one process, are counted once each.
		"F = m:makes(), self() ! F, {F, m:waits()} => 1", "F = m:makes(), [spawn(fun() -> {F, waits()} end) || _ <- [1, 2, 3]], waits() => 4",
	)
	// Funs that nothing has made, but of its number; not those of the numbers beside it.
	texts := "keep. main(X) -> receive never -> X end.\nm.\nm."
	for n, want := range map[int]string{0: "0", 1999: "0", 2000: "1", 3999: "1", 4000: "0", 1000000000000000: "0"} {
		for _, v := range []string{"#f%d{}", "#f%d{1}", "[#f%d{}]", "{x, #{#f%d{} => 1}}", "#f9{#f%d{}}"} {
			v = fmt.Sprintf(v, n)
			result := map[string]string{"0": "purges 0", "1": "1 ends killed; purges 1"}[want]
			changing(t, texts,
				fmt.Sprintf("load 1; spawn main [%s]; run 1; load 2; purge m => loads 1; 1 from #p0; loads 2; %s", v, result),
				fmt.Sprintf("load 1; spawn main [x]; run 1; load 2; send 1 %s; purge m => loads 1; 1 from #p0; loads 2; %s", v, result))
		}
	}
}

// Who uses new code only goes on when old code is purged; who used old code and does so no more, too.
func TestUsesOfNewCodeP17(t *testing.T) {
	m := "m. export waits/0, makes/0. makes() -> fun() -> 1 end. waits() -> receive never -> 1 end."
	changing(t, "keep. main() -> m:waits(). has() -> F = m:makes(), receive x -> say(F()) end. leaves() -> F = m:makes(), receive x -> 1 end, m:waits(). calls() -> inner(), receive never -> 1 end. inner() -> F = m:makes(), receive x -> F end.\n"+m+"\n"+m,
		"load 1; spawn main; spawn has; run 2; load 2; spawn main; spawn has; run 2; purge m; send 4 x; run 1 => loads 1; 1 from #p0; 2 from #p0; loads 2; 3 from #p0; 4 from #p0; 1 ends killed; 2 ends killed; purges 2; 4: 1; 4 ends normal",
		"load 1; spawn calls; run 1; load 2; soft m; send 1 x; run 1; soft m => loads 1; 1 from #p0; loads 2; keeps m; purges 0",
		"load 1; spawn has; run 1; load 2; soft m; send 1 x; run 1; soft m => loads 1; 1 from #p0; loads 2; keeps m; 1: 1; 1 ends normal; purges 0",
		"load 1; spawn leaves; run 1; load 2; send 1 x; run 1; purge m => loads 1; 1 from #p0; loads 2; 1 ends killed; purges 1",
		"load 1; spawn has; run 1; load 2; send 1 x; soft m; purge m; run 1 => loads 1; 1 from #p0; loads 2; keeps m; 1 ends killed; purges 1",
	)
}

// What a purge brings about, in which order: those that use it ascending, behind each who ends by its signals; then EvPurge.
func TestWhatPurgesTellP17(t *testing.T) {
	modules := `keep. main() -> 1. traps() -> trap_exit(true), m:waits(). watches(P) -> monitor(P), heard(). heard() -> receive X -> say(X), heard() end. links(P) -> link(P), receive never -> 1 end. hears(P) -> trap_exit(true), link(P), heard(). loops() -> priority(low), m:loops(). named() -> register(name, self()), tab_new(t, set), m:waits(). asks(_) -> receive ask -> say({whereis(name), try tab_size(t) catch error:V -> V end}) end.
m. export waits/0, loops/0, both/1. waits() -> receive never -> 1 end. loops() -> loops(). both(P) -> link(P), waits().
m.`
	changing(t, modules,
		// One that traps, one that waits, one that is ready.
		"load 1; spawn traps; spawn m:waits; spawn loops; run 5; load 2; purge m => loads 1; 1 from #p0; 2 from #p0; 3 from #p0; loads 2; 1 ends killed; 2 ends killed; 3 ends killed; purges 3",
		// One that is linked to others: they end behind it, for its reason, ahead of the next that uses it.
		"load 1; spawn m:waits; spawn m:waits; spawn links [#p1]; spawn hears [#p1]; spawn links [#p2]; spawn watches [#p2]; run 9; load 2; purge m; run 9 => loads 1; 1 from #p0; 2 from #p0; 3 from #p0; 4 from #p0; 5 from #p0; 6 from #p0; loads 2; 1 ends killed; 3 ends killed; 2 ends killed; 5 ends killed; purges 2; 4: {exit, #p1, killed}; 6: {down, #r1, #p2, killed}",
		// Those that use it and are linked: one ends by the other, and is counted all the same; so is one that ends by one that does not use it.
		"load 1; spawn m:waits; spawn m:both [#p1]; spawn m:both [#p2]; run 9; load 2; purge m => loads 1; 1 from #p0; 2 from #p0; 3 from #p0; loads 2; 1 ends killed; 2 ends killed; 3 ends killed; purges 3",
		"load 1; spawn m:waits; spawn m:waits; spawn links [#p1]; spawn m:both [#p3]; run 9; load 2; purge m => loads 1; 1 from #p0; 2 from #p0; 3 from #p0; 4 from #p0; loads 2; 1 ends killed; 3 ends killed; 4 ends killed; 2 ends killed; purges 3",
		"load 1; spawn traps; spawn m:both [#p1]; run 9; load 2; purge m => loads 1; 1 from #p0; 2 from #p0; loads 2; 1 ends killed; 2 ends killed; purges 2",
		// Names and tables are gone.
		"load 1; spawn named; spawn asks [1]; spawn asks [2]; run 9; send 2 ask; run 1; load 2; purge m; send 3 ask; run 1 => loads 1; 1 from #p0; 2 from #p0; 3 from #p0; 2: {#p1, 0}; 2 ends normal; loads 2; 1 ends killed; purges 1; 3: {undefined, badarg}; 3 ends normal",
		// With the clock.
		"load 1; tick 4; spawn m:waits; run 1; load 2; tick 2; soft m; tick 3; purge m => loads 1; @4 1 from #p0; @4 loads 2; @6 keeps m; @9 1 ends killed; @9 purges 1",
	)
	// Who is ready behind it.
	r := changeRun(t, modulesOf(modules), actsOf("load 1; spawn loops; spawn loops; spawn watches [#p2]; run 4; load 2; spawn main; purge m"))
	if !slices.Equal(r.Ready, []int{3, 4}) && !slices.Equal(r.Ready, []int{4, 3}) || seen(r) != "3 ready [{down, #r1, #p2, killed}] steps 8; 4 ready steps 0" {
		t.Error(reportText(r))
	}
}

// Nobody ever is in code that was purged: whoever lives behind a purge says so of code that is there.
func TestNobodyRunsPurgedCodeP17(t *testing.T) {
	t.Parallel()
	r := newChance(116)
	m := "m. export loops/1, makes/0. loops(N) -> say(%d), m:loops(N). makes() -> fun() -> say(%d), m:loops(1) end."
	texts := "keep. main() -> F = m:makes(), ends(F). ends(F) -> spawn(F), m:loops(1)."
	for n := range 5 {
		texts += "\n" + strings.ReplaceAll(m, "%d", fmt.Sprint(n+1))
	}
	ends := 0
	for range 150 {
		acts := actsOf("load 1; spawn main; spawn m:loops [2]")
		loads := []int{0, 1}
		there := map[int]int{1: 1} // texts, how many of their loads are there
		old := 0
		var ok []map[int]int
		for len(acts) < 60 {
			n := 1 + r.Intn(5)
			switch r.Intn(4) {
			case 0:
				acts = append(acts, impl.Act{Kind: impl.AcLoad, N: n})
				if old == 0 {
					old, loads = loads[len(loads)-1], append(loads, n)
					there[n]++
				}
			case 1:
				acts = append(acts, impl.Act{Kind: impl.AcPurge, Name: "m"})
				if old != 0 {
					there[old]--
					old = 0
				}
			case 2:
				acts = append(acts, impl.Act{Kind: impl.AcSpawn, Name: "main", V: list()})
			default:
				acts = append(acts, impl.Act{Kind: impl.AcTick, N: 1}, impl.Act{Kind: impl.AcRun, N: 1 + r.Intn(4)})
				now := map[int]int{}
				for n, count := range there {
					now[n] = count
				}
				ok = append(ok, now) // by the clock
			}
		}
		report := changeRun(t, modulesOf(texts), acts)
		for _, e := range report.Events {
			if e.Kind == impl.EvSay && ok[e.Now-1][e.V.N] < 1 {
				t.Fatalf("%s\nat %d %d says %d\n%s", actsText(acts), e.Now, e.Pid, e.V.N, told(report))
			}
			if e.Kind == impl.EvEnd {
				ends++
			}
		}
	}
	if ends < 100 {
		t.Error("too few are ended:", ends)
	}
}
