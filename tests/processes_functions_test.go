package tests

import (
	"fmt"
	"slices"
	"strings"
	"testing"

	"loop.example/g00019/impl"
)

const lots = " lots(0) -> 0; lots(N) -> lots(N - 1)."

func TestFunctionsOfProcesses(t *testing.T) {
	eachSays(t, waiters+lots,
		"say(self()) => #p1", "say(node()) => local", "say(nodes()) => []", "say(now()) => 0", "say(make_ref()), say(make_ref()) => #r1 #r2",
		"say(say({x, 1})) => {x, 1} {x, 1}", "say(m:self()), say(m:say(x)) => #p1 x x", "say((fun self/0)()), say((fun say/1)(x)) => #p1 x x",
		"say([F() || F <- [fun self/0, fun node/0, fun now/0]]) => [#p1, local, 0]",
		"say(is_alive(self())), P = spawn(fun ends/0), say(is_alive(P)), receive x -> 1 after 0 -> lots(20) end, say(is_alive(P)) => true true false",
		"say(try is_alive(x) catch C:V -> {C, V} end) => {error, badarg}",
		"say(try other:self() catch C:V -> {C, V} end) => {error, undef}",
		"say(priority(high)), say(priority(low)), say(priority(normal)), say(priority(normal)) => normal high low normal",
		"say(try priority(x) catch C:V -> {C, V} end), say(priority(normal)) => {error, badarg} normal", "say(try priority(1) catch C:V -> {C, V} end) => {error, badarg}", "say(try priority(\"high\") catch C:V -> {C, V} end) => {error, badarg}",
	)
	// A module's own function of that name and number is ahead of these; of another number it is another one.
	eachSays(t, "self() -> mine. now(X) -> {mine, X}. exit(X, Y) -> {X, Y}.", "say(self()) => mine", "say(now(1)), say(now()) => {mine, 1} 0", "say(exit(1, 2)) => {1, 2}", "say(m:self()) => #p1", "say((fun self/0)()) => mine")
	tells(t, "main(P) -> say(is_alive(P)).", "spawn main [#p0]; run 1", "1 from #p0; 1: false; 1 ends normal")
	tells(t, "main(P) -> say(is_alive(P)).", "spawn main [#p9]; run 1", "1 from #p0; 1: false; 1 ends normal")
	tells(t, "main() -> say(now()), receive x -> 1 after 7 -> say(now()) end.", "tick 3; spawn main; run 1; tick 9; run 1", "@3 1 from #p0; @3 1: 3; @12 1: 12; @12 1 ends normal")
}

// Each function, with each argument in turn a term of each Kind: badarg but for what is said.
func TestArgumentsOfEachKind(t *testing.T) {
	kinds := []string{"7", "-1", "x", "me", "free", "undefined", "true", "high", "set", "tab", "R", "F", "G", "self()", "P", "{x,1}", "{}", "#{}", "[]", "[x]", "<<1>>", "1000000000", "1000000001"}
	right := map[string][]string{
		"say": {"x"}, "is_alive": {"P"}, "spawn": {"F"}, "spawn_link": {"F"}, "spawn_monitor": {"F"}, "link": {"P"}, "unlink": {"P"}, "monitor": {"P"}, "demonitor": {"R"}, "trap_exit": {"true"}, "priority": {"high"},
		"unregister": {"me"}, "whereis": {"me"}, "cancel_timer": {"R"}, "tab_size": {"tab"}, "exit": {"P", "x"}, "register": {"free", "P"}, "tab_new": {"free", "set"}, "tab_put": {"tab", "{x, 1}"}, "tab_get": {"tab", "x"},
		"tab_drop": {"tab", "x"}, "tab_select": {"tab", "[{{x}, [], 1}]"}, "send_after": {"7", "P", "x"},
	}
	taken := map[string]string{ // what is right, too, beside all of what is any term
		"is_alive 0": "self() P", "spawn 0": "F", "spawn_link 0": "F", "spawn_monitor 0": "F", "link 0": "self() P", "unlink 0": "self() P", "monitor 0": "self() P", "demonitor 0": "R", "trap_exit 0": "true", "priority 0": "high",
		"unregister 0": "me", "whereis 0": "x me free undefined true high set tab", "cancel_timer 0": "R", "tab_size 0": "tab", "exit 0": "self() P", "register 0": "x free true high set tab", "register 1": "P", "tab_new 0": "x me free undefined true high set", "tab_new 1": "set",
		"tab_put 0": "tab", "tab_put 1": "{x,1}", "tab_get 0": "tab", "tab_drop 0": "tab", "tab_select 0": "tab", "tab_select 1": "", "send_after 0": "7 1000000000", "send_after 1": "x me free undefined true high set tab self() P",
	}
	for name, args := range right {
		for i := range args {
			for _, kind := range kinds {
				row := slices.Clone(args)
				row[i] = kind
				call := name + "(" + strings.Join(row, ", ") + ")"
				forms := "main() -> register(me, self()), tab_new(tab, set), R = make_ref(), F = fun() -> receive never -> 1 end end, G = fun(X) -> X end, trap_exit(true), P = spawn(fun wait/0), say(here), " +
					"say(try " + call + ", well catch C:V -> {C, V} end), receive never -> 1 end. wait() -> receive never -> 1 end."
				r := lived(t, forms, "spawn main; run 9")
				words, some := taken[fmt.Sprint(name, " ", i)]
				want := "{error, badarg}"
				if !some || slices.Contains(strings.Fields(words), kind) {
					want = "well"
				}
				if got := sayings(r, 1); got != "here "+want && !(name == "say" && strings.HasSuffix(got, " well")) {
					t.Errorf("%s: %s, not %s", call, got, want)
				}
			}
		}
	}
}

// The step of the function is counted ahead of what it finds about its arguments.
func TestStepsOfFunctions(t *testing.T) {
	for call, args := range map[string]int{
		"self()": 0, "node()": 0, "nodes()": 0, "now()": 0, "make_ref()": 0, "spawn(x)": 1, "spawn_link(x)": 1, "spawn_monitor(x)": 1, "link(x)": 1, "unlink(x)": 1, "monitor(x)": 1, "demonitor(x)": 1, "trap_exit(x)": 1, "priority(x)": 1,
		"unregister(x)": 1, "whereis(1)": 1, "is_alive(x)": 1, "cancel_timer(x)": 1, "say(x)": 1, "tab_size(x)": 1, "exit(x, y)": 2, "register(x, y)": 2, "tab_new(x, y)": 2, "tab_put(x, y)": 2, "tab_get(x, y)": 2, "tab_drop(x, y)": 2, "tab_select(x, y)": 2, "send_after(x, y, z)": 3,
	} {
		for _, left := range []int{0, 1} { // steps that its turn has more than the call, with its arguments, needs
			forms := "main() -> " + counted(50-1-args-left) + ", " + call + "."
			r := lived(t, forms, "spawn main; run 1")
			if _, ended := endOf(r, 1); ended != (left == 1) || !ended && r.Procs[0].Steps != 50 {
				t.Errorf("%s with %d left: %s", call, left, reportText(r))
			}
			if _, ended := endOf(lived(t, forms, "spawn main; run 2"), 1); !ended {
				t.Error(call, left)
			}
		}
	}
	eachSays(t, "", "X = 1, say(try whereis(1) catch C:V -> {C, V} end), say(try whereis({}) catch C:V -> {C, V} end) => {error, badarg} {error, badarg}")
}

func TestSpawns(t *testing.T) {
	forms := waiters + " g() -> say(g). h(X) -> say(X). self() -> say(own)."
	tells(t, "main() -> say(spawn(fun g/0))."+forms, "spawn main; run 9", "1 from #p0; 2 from #p1; 1: #p2; 1 ends normal; 2: g; 2 ends normal")
	tells(t, "main() -> X = 5, say(spawn(fun() -> say({X, self()}) end))."+waiters, "spawn main; run 9", "1 from #p0; 2 from #p1; 1: #p2; 1 ends normal; 2: {5, #p2}; 2 ends normal")
	tells(t, "main() -> spawn(fun() -> spawn(fun() -> say(deep) end) end).", "spawn main; run 9", "1 from #p0; 2 from #p1; 1 ends normal; 3 from #p2; 2 ends normal; 3: deep; 3 ends normal")
	// The module's own function that is named like one of 4.3 may be called.
	tells(t, "main() -> spawn(fun self/0)."+forms, "spawn main; run 9", "1 from #p0; 2 from #p1; 1 ends normal; 2: own; 2 ends normal")
	for _, f := range []string{"fun(X) -> X end", "fun h/1", "fun node/0", "fun now/0", "fun make_ref/0", "fun hd/1", "x", "{fun g/0}", "[]", "whereis(x)", "#{}", "5"} {
		for _, spawn := range []string{"spawn", "spawn_link", "spawn_monitor"} {
			tells(t, "main() -> say(try "+spawn+"("+f+") catch C:V -> {C, V} end), say(make_ref())."+forms, "spawn main; run 9", "1 from #p0; 1: {error, badarg}; 1: #r1; 1 ends normal")
		}
	}
	// Funs from elsewhere: those that the module may have made are called.
	tree := parsed(t, "module m. main(F) -> say(try spawn(F) catch C:V -> {C, V} end). one() -> X = 7, fun() -> say({a, X}) end. two() -> fun main/1, fun one/0.")
	for n, node := range tree {
		for _, f := range []impl.Term{fun(n), fun(n, num(3)), fun(n, num(3), num(4))} {
			r := nodeRun(t, "module m. main(F) -> say(try spawn(F) catch C:V -> {C, V} end). one() -> X = 7, fun() -> say({a, X}) end. two() -> fun main/1, fun one/0.",
				[]impl.Act{{Kind: impl.AcSpawn, Name: "main", V: list(f)}, {Kind: impl.AcRun, N: 9}})
			runs := node.Kind == impl.NdFun && len(f.Kids) == 1 || node.Kind == impl.NdRefer && node.N == 0 && len(f.Kids) == 0
			if got := sayings(r, 1); got != map[bool]string{true: "#p2", false: "{error, badarg}"}[runs] {
				t.Error(texts([]impl.Term{f}), got)
			}
		}
	}
	tells(t, "main(F) -> say(try spawn(F) catch C:V -> {C, V} end).", "spawn main [#f99999{}]; run 9", "1 from #p0; 1: {error, badarg}; 1 ends normal")
	tells(t, "main(F) -> say(try spawn(F) catch C:V -> {C, V} end).", "spawn main [#f1000000000000000{}]; run 9", "1 from #p0; 1: {error, badarg}; 1 ends normal")
}

// MaxProcs: 60 that have not ended, the caller with them.
func TestManyProcesses(t *testing.T) {
	forms := "main(N) -> all(N), say(try spawn(fun waits/0) catch C:V -> {C, V} end), waits(). all(0) -> 0; all(N) -> spawn(fun waits/0), all(N - 1)." + waiters
	last := func(acts string, want string) impl.Report {
		t.Helper()
		r := lived(t, forms, acts)
		if got := sayings(r, 1); got != want {
			t.Error(acts, got)
		}
		return r
	}
	last("spawn main [58]; run 200", "#p60")
	r := last("spawn main [59]; run 200", "{error, system_limit}")
	if len(r.Procs) != 60 {
		t.Error(len(r.Procs))
	}
	// AcSpawn does nothing then; when one has ended it does.
	r = last("spawn main [59]; run 200; spawn waits", "{error, system_limit}")
	if len(r.Procs) != 60 {
		t.Error(len(r.Procs))
	}
	r = last("spawn main [59]; run 200; exit 7 x; spawn waits; spawn waits", "{error, system_limit}")
	if len(r.Procs) != 60 || r.Procs[59].Pid != 61 {
		t.Error(len(r.Procs), r.Procs[59].Pid)
	}
	// What is no Fun to be called is badarg also then; a monitor that was not set takes no Ref.
	all := "main(N) -> all(N), say(try spawn_link(fun waits/0) catch C:V -> V end), say(try spawn_monitor(fun waits/0) catch C:V -> V end), say(make_ref()), say(try spawn(x) catch C:V -> V end), say(try spawn(fun self/0) catch C:V -> V end), waits(). all(0) -> 0; all(N) -> spawn(fun waits/0), all(N - 1)." + waiters
	r = lived(t, all, "spawn main [59]; run 200")
	if got := sayings(r, 1); got != "system_limit system_limit #r1 badarg badarg" {
		t.Error(got)
	}
	if len(r.Procs[0].Links) != 0 {
		t.Error(r.Procs[0])
	}
}

func TestNames(t *testing.T) {
	eachSays(t, waiters+lots,
		"say(register(me, self())), say(whereis(me)), say(unregister(me)), say(whereis(me)) => true #p1 true undefined",
		"P = spawn(fun waits/0), say(register(it, P)), say(whereis(it)), say(whereis(me)) => true #p2 undefined",
		"say(try register(undefined, self()) catch C:V -> {C, V} end) => {error, badarg}",
		"register(me, self()), say(try register(me, self()) catch C:V -> {C, V} end) => {error, badarg}",
		"register(me, self()), say(try register(other, self()) catch C:V -> {C, V} end) => {error, badarg}",
		"register(me, self()), say(try register(me, spawn(fun waits/0)) catch C:V -> {C, V} end) => {error, badarg}",
		"P = spawn(fun ends/0), receive x -> 1 after 0 -> lots(20) end, say(try register(it, P) catch C:V -> {C, V} end) => {error, badarg}",
		"say(try unregister(me) catch C:V -> {C, V} end) => {error, badarg}", "say(try unregister(undefined) catch C:V -> {C, V} end) => {error, badarg}", "say(whereis(undefined)) => undefined",
		"register(a, self()), unregister(a), say(register(b, self())), say({whereis(a), whereis(b)}) => true {undefined, #p1}",
		"P = spawn(fun waits/0), register(it, P), say(unregister(it)), say(register(other, P)) => true true",
		"P = spawn(fun waits/0), register(it, P), exit(P, x), say(whereis(it)), say(register(it, self())) => undefined true",
		"register(local, self()), say(whereis(local)), local ! x, {local, local} ! y, receive X -> say(X) end, receive Y -> say(Y) end => #p1 x y",
	)
	tells(t, "main(P) -> say(try register(it, P) catch C:V -> {C, V} end).", "spawn main [#p0]; run 1", "1 from #p0; 1: {error, badarg}; 1 ends normal")
	tells(t, "main(P) -> say(try register(it, P) catch C:V -> {C, V} end).", "spawn main [#p5]; run 1", "1 from #p0; 1: {error, badarg}; 1 ends normal")
	shows(t, "main() -> register(me, self()), waits(). other() -> unregister(me), waits()."+waiters, "spawn main; run 1", "1 waits me steps 10")
	shows(t, "main() -> register(me, self()), waits(). other() -> unregister(me), waits()."+waiters, "spawn main; run 1; spawn other; run 1", "1 waits steps 10; 2 waits steps 8")
	// Names and tables are apart.
	eachSays(t, "", "register(t, self()), say(tab_new(t, set)), say(tab_size(t)), say(whereis(t)) => true 0 #p1")
}

func TestTimers(t *testing.T) {
	heard := waiters + lots
	// In the order of their times; of one time in the order in which they were asked for.
	tells(t, "main() -> send_after(5, self(), a), send_after(3, self(), b), send_after(5, self(), c), send_after(3, self(), d), heard()."+heard, "spawn main; run 9; tick 4; run 9; tick 4; run 9",
		"1 from #p0; @4 1: b; @4 1: d; @8 1: a; @8 1: c")
	tells(t, "main() -> send_after(5, self(), a), send_after(3, self(), b), send_after(5, self(), c), send_after(3, self(), d), heard()."+heard, "spawn main; run 9; tick 9; run 9",
		"1 from #p0; @9 1: b; @9 1: d; @9 1: a; @9 1: c")
	tells(t, "main() -> send_after(5, self(), a), receive x -> 1 after 2 -> send_after(3, self(), b) end, heard()."+heard, "spawn main; run 9; tick 2; run 9; tick 3; run 9", "1 from #p0; @5 1: a; @5 1: b")
	// To a name: whoever has it then, or nobody.
	tells(t, "main() -> send_after(5, me, a), send_after(6, me, b), register(me, self()), receive X -> say(X), unregister(me) end, heard()."+heard, "spawn main; run 9; tick 5; run 9; tick 5; run 9", "1 from #p0; @5 1: a")
	tells(t, "main() -> send_after(5, me, a), heard(). other() -> register(me, self()), heard()."+heard, "spawn main; spawn other; run 9; tick 5; run 9", "1 from #p0; 2 from #p0; @5 2: a")
	// To one who has ended then; from one who has.
	tells(t, "main(P) -> send_after(5, P, a), send_after(5, self(), b).", "spawn main [#p9]; run 9; tick 5; run 9", "1 from #p0; 1 ends normal")
	// Beside receives that are due at that time: in the order in which they were asked for.
	r := lived(t, "one() -> receive x -> 1 after 5 -> say(one) end. two() -> send_after(5, element(2, {x, whereis(three)}), letter), receive x -> 1 after 5 -> say(two) end. three() -> register(three, self()), receive L -> say(L) end. four() -> receive x -> 1 after 4 -> say(four) end.",
		"spawn three; spawn one; run 2; spawn two; run 1; spawn four; run 1; tick 9")
	if fmt.Sprint(r.Ready) != "[4 2 1 3]" {
		t.Error(r.Ready)
	}
	// A receive begun anew is asked for anew; one that was woken in vain is not.
	two := "one() -> receive x -> 1 after 5 -> say(one) end. two() -> receive x -> 1 after 5 -> say(two) end."
	r = lived(t, two, "spawn one; spawn two; run 2; send 1 y; run 1; tick 5")
	if fmt.Sprint(r.Ready) != "[1 2]" {
		t.Error(r.Ready)
	}
	r = lived(t, two+" three() -> receive z -> receive x -> 1 after 5 -> 2 end end.", "spawn three; spawn two; run 2; send 1 z; run 1; tick 5")
	if fmt.Sprint(r.Ready) != "[2 1]" {
		t.Error(r.Ready)
	}
	// A letter makes it ready ahead of its own time: it stands where that put it.
	r = lived(t, "one() -> send_after(3, self(), x), receive x -> 1 after 5 -> say(one) end. two() -> receive x -> 1 after 4 -> say(two) end.", "spawn two; spawn one; run 2; tick 9")
	if fmt.Sprint(r.Ready) != "[2 1]" {
		t.Error(r.Ready)
	}
	// The time that is left.
	tells(t, "main() -> R = send_after(9, self(), a), receive go -> say(cancel_timer(R)), say(cancel_timer(R)) end, heard()."+heard, "spawn main; run 9; tick 3; send 1 go; run 9; tick 9; run 9", "1 from #p0; @3 1: 6; @3 1: false")
	tells(t, "main() -> R = send_after(9, self(), a), receive go -> say(cancel_timer(R)) end, heard()."+heard, "spawn main; run 9; tick 9; send 1 go; run 9", "1 from #p0; @9 1: false; @9 1: a")
	tells(t, "main() -> R = send_after(0, self(), a), say(cancel_timer(R)), heard()."+heard, "spawn main; run 9; tick 1; run 9", "1 from #p0; 1: 0")
	tells(t, "main() -> send_after(0, self(), a), heard()."+heard, "spawn main; run 9; tick 0; run 9", "1 from #p0; 1: a")
	tells(t, "main() -> R = send_after(1000000000, self(), a), say(cancel_timer(R)).", "tick 7; spawn main; run 9", "@7 1 from #p0; @7 1: 1000000000; @7 1 ends normal")
	// Another may cancel it; a Ref that is none of a timer's is false.
	tells(t, "main() -> R = send_after(9, self(), a), spawn(fun() -> say(cancel_timer(R)) end), heard()."+heard, "spawn main; run 9; tick 9; run 9", "1 from #p0; 2 from #p1; 2: 9; 2 ends normal")
	eachSays(t, heard, "say(cancel_timer(make_ref())) => false", "say(cancel_timer(monitor(self()))) => false",
		"say(try send_after(1, {me, local}, x) catch C:V -> {C, V} end), say(make_ref()) => {error, badarg} #r1", "say(try send_after(0 - 1, self(), x) catch C:V -> {C, V} end) => {error, badarg}", "say(send_after(0, nobody, x)) => #r1",
		"say(try send_after(infinity, self(), x) catch C:V -> {C, V} end) => {error, badarg}", "say(try send_after(1, 5, x) catch C:V -> {C, V} end) => {error, badarg}")
}

// MaxTimers: 200 of them; those that have happened or were cancelled do not count.
func TestManyTimers(t *testing.T) {
	forms := "main(N) -> all(N), receive go -> 1 after 0 -> 1 end, say(try send_after(7, self(), x) catch C:V -> {C, V} end), say(make_ref()), receive never -> 1 end. all(0) -> 0; all(N) -> send_after(N, nobody, x), all(N - 1)."
	for _, x := range []struct{ n, want string }{{"199", "#r200 #r201"}, {"200", "{error, system_limit} #r201"}} {
		if got := sayings(lived(t, forms, "spawn main ["+x.n+"]; run 200"), 1); got != x.want {
			t.Error(x, got)
		}
	}
	more := "all(0) -> 0; all(N) -> send_after(N, nobody, x), all(N - 1). main() -> all(200), receive go -> say(try send_after(1, 5, x) catch C:V -> V end), say(try send_after(1, self(), x) catch C:V -> V end) end. "
	tells(t, more, "spawn main; run 100; send 1 go; run 9", "1 from #p0; 1: badarg; 1: system_limit; 1 ends normal")
	tells(t, more, "spawn main; run 100; tick 1; send 1 go; run 9", "1 from #p0; @1 1: badarg; @1 1: #r201; @1 1 ends normal")
	tells(t, "all(0) -> 0; all(N) -> send_after(N, nobody, x), all(N - 1). main() -> R = send_after(9, me, x), all(199), say(cancel_timer(R)), say(send_after(1, me, x)), say(try send_after(1, me, x) catch C:V -> V end).", "spawn main; run 200",
		"1 from #p0; 1: 9; 1: #r201; 1: system_limit; 1 ends normal")
}

func TestTablesOfProcesses(t *testing.T) {
	eachSays(t, waiters+lots,
		"say(tab_new(t, set)), say(tab_size(t)), say(tab_put(t, {a, 1})), say(tab_put(t, {a, 2})), say(tab_get(t, a)), say(tab_size(t)) => true 0 true true [{a, 2}] 1",
		"tab_new(t, bag), tab_put(t, {a, 1}), tab_put(t, {a, 2}), tab_put(t, {a, 1}), say(tab_get(t, a)), say(tab_size(t)) => [{a, 1}, {a, 2}] 2",
		"tab_new(t, log), tab_put(t, {a, 1}), tab_put(t, {a, 1}), say(tab_get(t, a)), say(tab_drop(t, a)), say(tab_size(t)), say(tab_get(t, a)) => [{a, 1}, {a, 1}] true 0 []",
		"tab_new(t, set), tab_put(t, {b, 1}), tab_put(t, {a, 2}), say(tab_select(t, [{{{v, 1}, {v, 2}}, [{gt, {v, 2}, 0}], {row}}])), say(tab_drop(t, c)), say(tab_size(t)) => [{a, 2}, {b, 1}] true 2",
		"tab_new(t, set), say(try tab_new(t, bag) catch C:V -> {C, V} end), tab_new(u, bag), tab_put(u, {1}), say({tab_size(t), tab_size(u)}) => {error, badarg} {0, 1}",
		"say(tab_new(undefined, set)), say(tab_size(undefined)) => true 0",
		"tab_new(t, set), say(try tab_put(t, {}) catch C:V -> {C, V} end), say(try tab_put(t, x) catch C:V -> {C, V} end), say(tab_put(t, {x})) => {error, badarg} {error, badarg} true",
		"tab_new(t, set), say(try tab_select(t, []) catch C:V -> {C, V} end), say(try tab_select(t, x) catch C:V -> {C, V} end), say(tab_select(t, [{{x}, [], 1}])) => {error, badarg} {error, badarg} []",
		"tab_new(t, set), P = spawn(fun() -> tab_put(t, {y, self()}) end), receive x -> 1 after 0 -> lots(20) end, say(tab_get(t, y)) => [{y, #p2}]",
		"P = spawn(fun() -> tab_new(t, set), tab_put(t, {y}), receive x -> 1 end end), receive x -> 1 after 0 -> lots(20) end, say(tab_get(t, y)), exit(P, x), say(try tab_get(t, y) catch C:V -> {C, V} end), say(tab_new(t, log)) => [{y}] {error, badarg} true",
		"try tab_new(t, x) catch C:V -> say({C, V}) end, say(try tab_size(t) catch C:V -> {C, V} end) => {error, badarg} {error, badarg}",
	)
	// What a question says, by its question given as a letter.
	ask := "main() -> tab_new(t, bag), [tab_put(t, {X, Y}) || X <- [2, 1], Y <- [b, a]], receive Q -> say(try tab_select(t, Q) catch C:V -> {C, V} end) end."
	for question, want := range map[string]string{
		"[{{{v, 1}, {v, 2}}, [{gt, {v, 1}, 1}], {row}}]": "[{2, b}, {2, a}]", "[{{{v, 1}, b}, [], {v, 1}}]": "[1, 2]", "[{{{v, 0}, {v, 0}}, [], x}]": "[x, x, x, x]", "[{{{v, 0}}, [], x}]": "[]", "[x]": "{error, badarg}", "[]": "{error, badarg}", "{}": "{error, badarg}",
	} {
		if got := sayings(lived(t, ask, "spawn main; run 9; send 1 "+question+"; run 9"), 1); got != want {
			t.Error(question, got)
		}
	}
}

// MaxTables and MaxRows, met exactly and passed by one; lists that are not right.
func TestManyTablesAndRows(t *testing.T) {
	names := "abcdefghijklmnopqrstuvwxyz"
	for n := 19; n <= 22; n++ {
		body := ""
		for _, c := range names[:n] {
			body += fmt.Sprintf("tab_new(%c, set), ", c)
		}
		want := map[bool]string{true: "1: true; 1: badarg; 1 ends normal", false: "1: system_limit; 1: badarg; 1 ends normal"}[n < 20]
		if n > 20 {
			want = "1 ends {error, system_limit}"
		}
		tells(t, "main() -> "+body+"say(try tab_new(z, set) catch C:V -> V end), say(try tab_new(a, set) catch C:V -> V end).", "spawn main; run 9", "1 from #p0; "+want)
	}
	// The limit counts the tables of all; those of one who has ended are no more.
	forms := "main(L) -> [tab_new(X, set) || X <- L], say(try tab_new(z, set) catch C:V -> V end), receive x -> 1 end."
	tells(t, forms, "spawn main [[a, b, c, d, e, f, g, h, i, j]]; spawn main [[k, l, m, n, o, p, q, r, s, t]]; run 9; exit 1 x; exit 2 x", "1 from #p0; 2 from #p0; 1: true; 2 ends {error, system_limit}; 1 ends x")
	tells(t, forms, "spawn main [[a, b, c, d, e, f, g, h, i, j]]; run 3; exit 1 x; spawn main [[a, k, l, m, n, o, p, q, r, s, t, b, c, d, e, f, g, h, i]]; run 9", "1 from #p0; 1: true; 1 ends x; 2 from #p0; 2: true")
	rows := "main(Kind, N) -> tab_new(t, Kind), all(N), say(try tab_put(t, {new}) catch C:V -> V end), say(try tab_put(t, {1, again}) catch C:V -> V end), say(tab_size(t)). all(0) -> 0; all(N) -> tab_put(t, {N}), all(N - 1)."
	tells(t, rows, "spawn main [set, 499]; run 200", "1 from #p0; 1: true; 1: true; 1: 500; 1 ends normal")
	tells(t, rows, "spawn main [set, 500]; run 200", "1 from #p0; 1: system_limit; 1: true; 1: 500; 1 ends normal")
	tells(t, rows, "spawn main [log, 499]; run 200", "1 from #p0; 1: true; 1: system_limit; 1: 500; 1 ends normal")
	tells(t, rows, "spawn main [bag, 500]; run 200", "1 from #p0; 1: system_limit; 1: system_limit; 1: 500; 1 ends normal")
	// 499 terms a row: of four rows the List has 1997 terms, of five too many. 1999 terms, and 2000 of one answer.
	large := "main(N, K) -> tab_new(t, log), R = list_to_tuple([a | many(K)]), all(N, R), say(try length(tab_get(t, a)) catch C:V -> V end), say(try length(tab_select(t, [{{v, 0}, [], 1}])) catch C:V -> V end), receive Q -> say(try length(tab_select(t, Q)) catch C:V -> V end) end. " +
		"all(0, _) -> 0; all(N, R) -> tab_put(t, R), all(N - 1, R). many(0) -> []; many(N) -> [N | many(N - 1)]."
	question := "[{{a, " + strings.TrimSuffix(strings.Repeat("{v, 0}, ", 497), ", ") + "}, [], {row}}]"
	tells(t, large, "spawn main [4, 497]; run 200; send 1 "+question+"; run 9", "1 from #p0; 1: 4; 1: badarg; 1: 4; 1 ends normal")
	tells(t, large, "spawn main [5, 497]; run 200; send 1 "+question+"; run 9", "1 from #p0; 1: system_limit; 1: badarg; 1: system_limit; 1 ends normal")
	// One answer that is too large by itself: chapter 9 says ErrFull.
	twice := "[{{a, " + strings.TrimSuffix(strings.Repeat("{v, 0}, ", 497), ", ") + "}, [], [{row}, {row}, {row}, {row}, {row}]}]"
	tells(t, large, "spawn main [1, 497]; run 200; send 1 "+twice+"; run 9", "1 from #p0; 1: 1; 1: badarg; 1: system_limit; 1 ends normal")
}
