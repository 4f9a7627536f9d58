package tests

import (
	"fmt"
	"strings"
	"testing"

	"loop.example/g00019/impl"
)

// waiters is functions that wait for ever: plainly, with exits trapped, and saying all letters.
const waiters = " waits() -> receive never -> 1 end. traps() -> trap_exit(true), waits(). says() -> trap_exit(true), heard(). heard() -> receive X -> say(X), heard() end. ends() -> x."

func TestLinks(t *testing.T) {
	links := func(body string, want string) {
		t.Helper()
		shows(t, "main() -> "+body+", waits()."+waiters, "spawn main; run 9", want)
	}
	links("P = spawn(fun waits/0), say(link(P))", "1 waits links 2 steps 14; 2 waits links 1 steps 3")
	links("P = spawn(fun waits/0), link(P), say(link(P))", "1 waits links 2 steps 17; 2 waits links 1 steps 3")
	links("spawn_link(fun waits/0)", "1 waits links 2 steps 8; 2 waits links 1 steps 3")
	links("P = spawn_link(fun waits/0), link(P)", "1 waits links 2 steps 12; 2 waits links 1 steps 3")
	links("P = spawn_link(fun waits/0), say(unlink(P))", "1 waits steps 14; 2 waits steps 3")
	links("P = spawn(fun waits/0), say(unlink(P)), unlink(P)", "1 waits steps 17; 2 waits steps 3")
	links("link(self()), unlink(self())", "1 waits steps 13")
	links("[spawn_link(fun waits/0) || X <- [1, 2, 3]]", "1 waits links 2 3 4 steps 23; 2 waits links 1 steps 3; 3 waits links 1 steps 3; 4 waits links 1 steps 3")
	links("A = spawn(fun waits/0), B = spawn(fun waits/0), link(B), link(A)", "1 waits links 2 3 steps 19; 2 waits links 1 steps 3; 3 waits links 1 steps 3")
	eachSays(t, waiters,
		"say(link(self())) => true", "say(unlink(self())) => true", "say(unlink(element(2, {x, spawn(fun ends/0)}))) => true",
		"say(try link(x) catch C:V -> {C, V} end) => {error, badarg}", "say(try link(1) catch C:V -> {C, V} end) => {error, badarg}", "say(try link(make_ref()) catch C:V -> {C, V} end) => {error, badarg}",
		"register(me, self()), say(try link(me) catch C:V -> {C, V} end) => {error, badarg}",
		"say(try unlink(x) catch C:V -> {C, V} end) => {error, badarg}", "say(try unlink(make_ref()) catch C:V -> {C, V} end) => {error, badarg}",
	)
}

// A link with one who has ended, or never was: an exit signal noproc from it.
func TestLinksToWhoHasEnded(t *testing.T) {
	ended := "P = spawn(fun ends/0), receive x -> 1 after 0 -> 1 end, lots(20)"
	more := waiters + " lots(0) -> 0; lots(N) -> lots(N - 1)."
	tells(t, "main() -> "+ended+", link(P), say(more)."+more, "spawn main; run 9", "1 from #p0; 2 from #p1; 2 ends normal; 1 ends noproc")
	tells(t, "main() -> trap_exit(true), "+ended+", say(link(P)), receive X -> say(X) end."+more, "spawn main; run 9", "1 from #p0; 2 from #p1; 2 ends normal; 1: true; 1: {exit, #p2, noproc}; 1 ends normal")
	tells(t, "main(P) -> link(P), say(more).", "spawn main [#p2]; run 9", "1 from #p0; 1 ends noproc")
	tells(t, "main(P) -> link(P), say(more).", "spawn main [#p0]; run 9", "1 from #p0; 1 ends noproc")
	tells(t, "main(P) -> try link(P) catch _:_ -> say(caught) after say(behind) end.", "spawn main [#p2]; run 9", "1 from #p0; 1 ends noproc")
	tells(t, "main(P) -> trap_exit(true), link(P), receive X -> say(X) end.", "spawn main [#p99]; run 9", "1 from #p0; 1: {exit, #p99, noproc}; 1 ends normal")
	shows(t, "main(P) -> trap_exit(true), link(P), waits()."+waiters, "spawn main [#p99]; run 9", "1 waits traps [{exit, #p99, noproc}] steps 12")
	// It ends with all those it is linked to.
	tells(t, "main(P) -> spawn_link(fun waits/0), link(P)."+waiters, "spawn main [#p99]; run 9", "1 from #p0; 2 from #p1; 1 ends noproc; 2 ends noproc")
}

func TestMonitors(t *testing.T) {
	tells(t, "main() -> P = spawn(fun ends/0), say(monitor(P)), heard()."+waiters, "spawn main; run 9", "1 from #p0; 2 from #p1; 1: #r1; 2 ends normal; 1: {down, #r1, #p2, normal}")
	tells(t, "main() -> P = spawn(fun ends/0), {monitor(P), monitor(P)}, heard()."+waiters, "spawn main; run 9", "1 from #p0; 2 from #p1; 2 ends normal; 1: {down, #r1, #p2, normal}; 1: {down, #r2, #p2, normal}")
	tells(t, "main() -> say(spawn_monitor(fun ends/0)), heard()."+waiters, "spawn main; run 9", "1 from #p0; 2 from #p1; 1: {#p2, #r1}; 2 ends normal; 1: {down, #r1, #p2, normal}")
	tells(t, "main() -> {P, R} = spawn_monitor(fun ends/0), monitor(P), say(demonitor(R)), heard()."+waiters, "spawn main; run 9", "1 from #p0; 2 from #p1; 1: true; 2 ends normal; 1: {down, #r2, #p2, normal}")
	tells(t, "main() -> {_, R} = spawn_monitor(fun ends/0), demonitor(R), say(demonitor(R)), heard()."+waiters, "spawn main; run 9", "1 from #p0; 2 from #p1; 1: true; 2 ends normal")
	// One who has ended, or never was: the letter at once.
	tells(t, "main(P) -> say(monitor(P)), say(there), heard()."+waiters, "spawn main [#p2]; run 9", "1 from #p0; 1: #r1; 1: there; 1: {down, #r1, #p2, noproc}")
	tells(t, "main(P) -> monitor(P), heard()."+waiters, "spawn main [#p0]; run 9", "1 from #p0; 1: {down, #r1, #p0, noproc}")
	shows(t, "main(P) -> R = monitor(P), demonitor(R), waits()."+waiters, "spawn ends; spawn main [#p1]; run 9", "2 waits [{down, #r1, #p1, noproc}] steps 13")
	// One's own: nobody is left to be told.
	tells(t, "main() -> say(monitor(self())), say(monitor(self())).", "spawn main; run 9", "1 from #p0; 1: #r1; 1: #r2; 1 ends normal")
	// Another's monitor stays; so does the letter that has come.
	tells(t, "main() -> P = spawn(fun waits/0), R = monitor(P), spawn(fun() -> demonitor(R), exit(P, why) end), heard()."+waiters, "spawn main; run 9",
		"1 from #p0; 2 from #p1; 3 from #p1; 2 ends why; 3 ends normal; 1: {down, #r1, #p2, why}")
	// What had a monitor has ended: nobody is told of those it had set.
	tells(t, "main() -> P = spawn(fun waits/0), spawn(fun() -> monitor(P), exit(stop) end), lots(9), exit(P, why). lots(0) -> 0; lots(N) -> lots(N - 1)."+waiters, "spawn main; run 9",
		"1 from #p0; 2 from #p1; 3 from #p1; 3 ends stop; 2 ends why; 1 ends normal")
	// A Ref is new for each that needs one.
	eachSays(t, waiters, "say(make_ref()), say(monitor(self())), say(send_after(9, me, x)), say(spawn_monitor(fun waits/0)), say(make_ref()) => #r1 #r2 #r3 {#p2, #r4} #r5")
	eachSays(t, "",
		"say(try monitor(x) catch C:V -> {C, V} end) => {error, badarg}", "say(try monitor(make_ref()) catch C:V -> {C, V} end), say(make_ref()) => {error, badarg} #r2",
		"say(try demonitor(self()) catch C:V -> {C, V} end) => {error, badarg}", "say(try demonitor(1) catch C:V -> {C, V} end) => {error, badarg}",
		"say(demonitor(make_ref())) => true", "register(me, self()), say(try monitor(me) catch C:V -> {C, V} end) => {error, badarg}",
	)
}

// exit of two arguments, to others and to itself.
func TestExitSignals(t *testing.T) {
	for _, x := range []struct{ who, reason, want string }{
		{"waits", "why", "2 ends why; 1: true"}, {"waits", "kill", "2 ends killed; 1: true"}, {"waits", "normal", "1: true"}, {"waits", "killed", "2 ends killed; 1: true"}, {"waits", "{x, [1]}", "2 ends {x, [1]}; 1: true"},
		{"says", "why", "1: true; 2: {exit, #p1, why}"}, {"says", "kill", "2 ends killed; 1: true"}, {"says", "normal", "1: true; 2: {exit, #p1, normal}"}, {"says", "killed", "1: true; 2: {exit, #p1, killed}"},
	} {
		tells(t, "main() -> P = spawn(fun "+x.who+"/0), receive x -> 1 after 1 -> 1 end, say(exit(P, "+x.reason+"))."+waiters, "spawn main; run 9; tick 1; run 9",
			"1 from #p0; 2 from #p1; @1 "+strings.ReplaceAll(strings.Replace(x.want, "1: true", "1: true; 1 ends normal", 1), "; ", "; @1 "))
	}
	// To one who has not had a turn yet, and trap_exit put back.
	tells(t, "main() -> exit(spawn(fun says/0), why)."+waiters, "spawn main; run 9", "1 from #p0; 2 from #p1; 2 ends why; 1 ends normal")
	tells(t, "main() -> trap_exit(true), exit(self(), one), trap_exit(false), exit(self(), two)."+waiters, "spawn main; run 9", "1 from #p0; 1 ends two")
	eachSays(t, waiters,
		"say(trap_exit(true)), say(trap_exit(true)), say(trap_exit(false)), say(trap_exit(false)) => false true true false",
		"say(exit(self(), normal)) => true",
		"say(x), exit(self(), why), say(y) => x",
		"say(x), exit(self(), kill), say(y) => x",
		"trap_exit(true), say(exit(self(), normal)), heard() => true {exit, #p1, normal}",
		"trap_exit(true), say(exit(self(), why)), heard() => true {exit, #p1, why}",
		"trap_exit(true), exit(self(), kill), say(y) => ",
		"say(exit(element(2, {x, spawn(fun ends/0)}), why)) => true",
		"try exit(self(), why) catch _:_ -> say(caught) after say(behind) end => ",
		"say(try exit(x, why) catch C:V -> {C, V} end) => {error, badarg}", "say(try exit(1, why) catch C:V -> {C, V} end) => {error, badarg}", "say(try exit(make_ref(), why) catch C:V -> {C, V} end) => {error, badarg}",
		"register(me, self()), say(try exit(me, why) catch C:V -> {C, V} end) => {error, badarg}",
		"say(try trap_exit(x) catch C:V -> {C, V} end) => {error, badarg}", "say(try trap_exit(1) catch C:V -> {C, V} end) => {error, badarg}", "say(try trap_exit(\"true\") catch C:V -> {C, V} end) => {error, badarg}",
	)
	tells(t, "main(P) -> say(exit(P, why)).", "spawn main [#p0]; run 1", "1 from #p0; 1: true; 1 ends normal")
	tells(t, "main(P) -> say(exit(P, why)).", "spawn main [#p7]; run 1", "1 from #p0; 1: true; 1 ends normal")
	tells(t, "main() -> exit(self(), kill).", "spawn main; run 1", "1 from #p0; 1 ends killed")
	tells(t, "main() -> spawn_link(fun waits/0), spawn_monitor(fun waits/0), exit(self(), kill)."+waiters, "spawn main; run 1", "1 from #p0; 2 from #p1; 3 from #p1; 1 ends killed; 2 ends killed")
	// A reason that is too large for the letter of a signal: nothing comes; who does not trap ends for it.
	deep, most := "nest(99)", "nest(98)"
	nest := " nest(0) -> x; nest(N) -> [nest(N - 1)]."
	tells(t, "main() -> P = spawn(fun says/0), receive x -> 1 after 1 -> 1 end, exit(P, "+deep+"), exit(P, x)."+nest+waiters, "spawn main; run 99; tick 1; run 99", "1 from #p0; 2 from #p1; @1 1 ends normal; @1 2: {exit, #p1, x}")
	r := lived(t, "main() -> P = spawn(fun says/0), receive x -> 1 after 1 -> 1 end, exit(P, "+most+")."+nest+waiters, "spawn main; run 99; tick 1; run 99")
	if len(r.Events) != 4 || r.Events[3].Kind != impl.EvSay {
		t.Error(told(r))
	}
	r = lived(t, "main() -> exit(self(), "+deep+")."+nest, "spawn main; run 99")
	if why, _ := endOf(r, 1); !same(why, nest99()) {
		t.Error(told(r))
	}
}

func nest99() impl.Term { return nest(atom("x"), 99) }

// How a process ends: for which reason, by the class of its answer.
func TestReasons(t *testing.T) {
	nest := " nest(0) -> x; nest(N) -> [nest(N - 1)]."
	for body, want := range map[string]string{
		"x": "normal", "{normal}": "normal", "kill": "normal", "exit(x)": "x", "exit(normal)": "normal", "exit(kill)": "kill", "exit(killed)": "killed", "exit({x, [1]})": "{x, [1]}",
		"throw(x)": "{nocatch, x}", "throw(normal)": "{nocatch, normal}", "error(x)": "{error, x}", "error(normal)": "{error, normal}", "hd(1)": "{error, badarg}", "1 + x": "{error, badarith}",
		"x = y": "{error, {badmatch, y}}", "other:f()": "{error, undef}", "(fun g/1)(x)": "{error, function_clause}", "g(2)": "{error, function_clause}", "case 1 of 2 -> 1 end": "{error, {case_clause, 1}}",
		"try exit(x) catch exit:Y -> exit({Y, again}) end": "{x, again}", "try 1 catch _:_ -> 2 after throw(z) end": "{nocatch, z}",
		"error(nest(99))": "system_limit", "throw(nest(99))": "system_limit", "element(1, {exit(nest(99))})": "?99", "error(nest(98))": "{error, ?98", "throw(nest(98))": "{nocatch, ?98",
		"list_to_tuple(lists(2000))": "{error, system_limit}", "exit(self(), [x])": "[x]",
	} {
		r := lived(t, "main() -> "+body+". g(1) -> 1. lists(0) -> []; lists(N) -> [N | lists(N - 1)]."+nest, "spawn main; run 200; run 200")
		for n := 98; n < 100; n++ {
			want = strings.Replace(want, fmt.Sprint("{error, ?", n), "{error, "+strings.Repeat("[", n)+"x"+strings.Repeat("]", n)+"}", 1)
			want = strings.Replace(want, fmt.Sprint("{nocatch, ?", n), "{nocatch, "+strings.Repeat("[", n)+"x"+strings.Repeat("]", n)+"}", 1)
			want = strings.Replace(want, fmt.Sprint("?", n), strings.Repeat("[", n)+"x"+strings.Repeat("]", n), 1)
		}
		if why, ended := endOf(r, 1); !ended || texts([]impl.Term{why}) != want {
			t.Errorf("%s ends for %s, not %s", body, told(r), want)
		}
	}
}

// Those linked are told ascending by Pid, then the monitors by Ref; those who end by it, behind, in the order of the signals.
func TestTheOrderOfEndsP16(t *testing.T) {
	all := waiters + ` lots(0) -> 0; lots(N) -> lots(N - 1).`
	// Links first, then monitors, to one and the same.
	tells(t, "main() -> trap_exit(true), P = spawn(fun waits/0), monitor(P), link(P), monitor(P), exit(P, why), heard()."+all, "spawn main; run 9",
		"1 from #p0; 2 from #p1; 2 ends why; 1: {exit, #p2, why}; 1: {down, #r1, #p2, why}; 1: {down, #r2, #p2, why}")
	// Three who are linked, in any order of their linking: they end ascending.
	tells(t, "main() -> [A, B, C] = [spawn(fun waits/0) || X <- [1, 2, 3]], link(C), link(A), link(B), exit(why)."+all, "spawn main; run 9",
		"1 from #p0; 2 from #p1; 3 from #p1; 4 from #p1; 1 ends why; 2 ends why; 3 ends why; 4 ends why")
	// A chain: 2 - 3 - 4, and 1 with a monitor of each.
	chain := "main() -> P = spawn(fun() -> spawn_link(fun() -> spawn_link(fun waits/0), waits() end), waits() end), lots(30), [monitor(Q) || Q <- [P]], exit(P, why), heard()."
	tells(t, chain+all, "spawn main; run 20", "1 from #p0; 2 from #p1; 3 from #p2; 4 from #p3; 2 ends why; 3 ends why; 4 ends why; 1: {down, #r1, #p2, why}")
	// Those who are to end by one's signals end ahead of those who are to by theirs: 2 is linked to 3 and 4, 3 to 5.
	tree := "main() -> spawn(fun() -> spawn_link(fun() -> receive go -> spawn_link(fun waits/0), waits() end end), spawn_link(fun waits/0), waits() end), receive P -> exit(P, why) end."
	tells(t, tree+all, "spawn main; run 9; send 3 go; run 9; send 1 #p2; run 9",
		"1 from #p0; 2 from #p1; 3 from #p2; 4 from #p2; 5 from #p3; 2 ends why; 3 ends why; 4 ends why; 5 ends why; 1 ends normal")
	// A ring: each is told once, the one who began it too.
	ring := "main() -> receive {A, B, C} -> [exit(A, why) || X <- [1]] end. one() -> receive P -> link(P), waits() end."
	tells(t, ring+all, "spawn main; spawn one; spawn one; spawn one; run 9; send 2 #p3; send 3 #p4; send 4 #p2; run 9; send 1 {#p3, #p3, #p3}; run 9",
		"1 from #p0; 2 from #p0; 3 from #p0; 4 from #p0; 3 ends why; 2 ends why; 4 ends why; 1 ends normal")
	// One in the ring who traps hears of both sides; the others end.
	trap := "main() -> trap_exit(true), P = spawn(fun waits/0), Q = spawn(fun() -> link(P), waits() end), link(P), link(Q), receive go -> exit(P, why) end, heard()."
	tells(t, trap+all, "spawn main; run 9; send 1 go; run 9", "1 from #p0; 2 from #p1; 3 from #p1; 2 ends why; 3 ends why; 1: {exit, #p2, why}; 1: {exit, #p3, why}")
	// The one whose turn it is ends by it: nothing that follows is worked out, and behind who ended first.
	own := "main() -> P = spawn_link(fun waits/0), spawn_monitor(fun waits/0), exit(P, why), say(more)."
	tells(t, own+all, "spawn main; run 9", "1 from #p0; 2 from #p1; 3 from #p1; 2 ends why; 1 ends why")
	// normal ends nobody else.
	tells(t, "main() -> spawn_link(fun waits/0), x."+all, "spawn main; run 9", "1 from #p0; 2 from #p1; 1 ends normal")
	tells(t, "main() -> spawn_link(fun says/0), lots(9)."+all, "spawn main; run 9", "1 from #p0; 2 from #p1; 1 ends normal; 2: {exit, #p1, normal}")
	// kill over a link is kill, and may be trapped.
	tells(t, "main() -> spawn_link(fun waits/0), spawn_link(fun says/0), receive x -> 1 after 1 -> exit(kill) end."+all, "spawn main; run 9; tick 1; run 9",
		"1 from #p0; 2 from #p1; 3 from #p1; @1 1 ends kill; @1 2 ends kill; @1 3: {exit, #p1, kill}")
	// killed from another: those linked get killed, which a trap takes.
	tells(t, "main() -> spawn_link(fun waits/0), spawn_link(fun says/0), waits()."+all, "spawn main; run 9; exit 1 kill; run 9",
		"1 from #p0; 2 from #p1; 3 from #p1; 1 ends killed; 2 ends killed; 3: {exit, #p1, killed}")
	// The links of one who has ended are no more, on both sides.
	shows(t, "main() -> P = spawn_link(fun waits/0), Q = spawn_link(fun waits/0), trap_exit(true), exit(P, why), waits()."+all, "spawn main; run 9",
		"1 waits traps [{exit, #p2, why}] links 3 steps 21; 3 waits links 1 steps 3")
	// An unlinked one is not told.
	tells(t, "main() -> P = spawn_link(fun waits/0), unlink(P), exit(P, why), say(more)."+all, "spawn main; run 9", "1 from #p0; 2 from #p1; 2 ends why; 1: more; 1 ends normal")
}

// Who is to end gets no more signals and letters; monitors of it are told when it ends.
func TestWhoIsToEndP16(t *testing.T) {
	all := waiters
	// 2 and 3 are linked to one another and to 4; 2 has monitors of 4: nothing of that is told twice.
	forms := "main() -> receive {P, Q, R} -> monitor(P), monitor(Q), monitor(R), exit(R, why), heard() end. one() -> receive {P, Q} -> link(P), link(Q), monitor(P), waits() end. two() -> trap_exit(true), receive {P, Q} -> link(P), link(Q), monitor(P), heard() end."
	tells(t, forms+all, "spawn main; spawn one; spawn one; spawn one; run 9; send 2 {#p4, #p3}; send 3 {#p2, #p4}; run 9; send 1 {#p2, #p3, #p4}; run 9",
		"1 from #p0; 2 from #p0; 3 from #p0; 4 from #p0; 4 ends why; 2 ends why; 3 ends why; 1: {down, #r5, #p4, why}; 1: {down, #r3, #p2, why}; 1: {down, #r4, #p3, why}")
	// With one of them trapping: it hears of 4 by its link and its monitor, then of 2 by its link.
	tells(t, forms+all, "spawn main; spawn one; spawn two; spawn one; run 9; send 2 {#p4, #p3}; send 3 {#p4, #p2}; run 9; send 1 {#p2, #p3, #p4}; run 9",
		"1 from #p0; 2 from #p0; 3 from #p0; 4 from #p0; 4 ends why; 2 ends why; 1: {down, #r5, #p4, why}; 1: {down, #r3, #p2, why}; 3: {exit, #p4, why}; 3: {down, #r2, #p4, why}; 3: {exit, #p2, why}")
}

// What one who ends leaves: no letters, no receive, no name, no tables; send_after's letters still come.
func TestWhatEndsWithAProcess(t *testing.T) {
	tells(t, "main() -> register(me, self()), send_after(5, a, hello), send_after(6, me, lost), exit(x). a() -> register(a, self()), heard(). "+strings.TrimSpace(waiters),
		"spawn a; spawn main; run 9; tick 9; run 9", "1 from #p0; 2 from #p0; 2 ends x; @9 1: hello")
	tells(t, "main() -> receive x -> 1 after 5 -> say(late) end.", "spawn main; run 1; exit 1 why; tick 9; run 9", "1 from #p0; 1 ends why")
	tells(t, "main() -> register(me, self()), exit(x). again() -> say(whereis(me)), say(register(me, self())), say(whereis(me)).", "spawn main; run 1; spawn again; run 1",
		"1 from #p0; 1 ends x; 2 from #p0; 2: undefined; 2: true; 2: #p2; 2 ends normal")
	tells(t, "main() -> tab_new(t, set), exit(x). again() -> say(try tab_size(t) catch C:V -> {C, V} end), say(tab_new(t, bag)).", "spawn main; run 1; spawn again; run 1",
		"1 from #p0; 1 ends x; 2 from #p0; 2: {error, badarg}; 2: true; 2 ends normal")
	shows(t, "main() -> waits(). loops() -> loops()."+waiters, "spawn main; spawn loops; run 2; send 1 a; exit 1 x; exit 2 x; send 1 b; send 2 c; run 9; tick 3", "")
	// Ended by itself in its own turn, with a name, a table and a letter of its own.
	own := "main() -> register(me, self()), tab_new(t, set), me ! x, send_after(1, me, y), exit(self(), kill), say(more). again() -> say(whereis(me)), say(try tab_size(t) catch C:V -> V end), say(try me ! x catch C:V -> V end)."
	tells(t, own, "spawn main; run 1; tick 1; spawn again; run 9", "1 from #p0; 1 ends killed; @1 2 from #p0; @1 2: undefined; @1 2: badarg; @1 2: badarg; @1 2 ends normal")
	tells(t, "main() -> register(me, self()), exit(whereis(me), why), say(more).", "spawn main; run 9", "1 from #p0; 1 ends why")
	// A name of the one who ends is gone ahead of those who are told.
	tells(t, "main() -> P = spawn(fun() -> register(it, self()), waits() end), lots(20), monitor(P), exit(P, why), receive X -> say({X, whereis(it), is_alive(P)}) end. lots(0) -> 0; lots(N) -> lots(N - 1)."+waiters, "spawn main; run 9",
		"1 from #p0; 2 from #p1; 2 ends why; 1: {{down, #r1, #p2, why}, undefined, false}; 1 ends normal")
}
