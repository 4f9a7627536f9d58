package tests

import (
	"fmt"
	"strings"
	"testing"

	"loop.example/g00019/impl"
)

// takers is a function that takes all letters and says them.
const takers = " takes() -> receive X -> say(X), takes() end."

func TestWhomLettersGoTo(t *testing.T) {
	eachSays(t, "ends() -> x."+takers,
		// To a Pid: itself, one who lives, one who has ended, one who never was.
		"self() ! a, receive X -> say(X) end => a",
		"say(self() ! {a, 1}) => {a, 1}",
		"P = spawn(fun takes/0), say({P ! a, P ! b}) => {a, b}",
		"P = spawn(fun ends/0), receive x -> 1 after 0 -> 1 end, say(P ! a) => a",
		"[P | _] = [self()], say(P ! P) => #p1",
		// To a name.
		"register(me, self()), say(me ! a), receive X -> say(X) end => a a",
		"register(me, self()), say({me, local} ! a), receive X -> say(X) end => a a",
		"say(try me ! a catch C:V -> {C, V} end) => {error, badarg}",
		"say(try undefined ! a catch C:V -> {C, V} end) => {error, badarg}",
		"register(me, self()), unregister(me), say(try me ! a catch C:V -> {C, V} end) => {error, badarg}",
		// To {Name, Node}.
		"say({me, local} ! a) => a",
		"say({me, far} ! a) => a",
		"register(me, self()), {me, far} ! a, receive X -> say(X) after 0 -> say(none) end => none",
		"say({me, me} ! a) => a",
		// To what is none of these; both parts are worked out first.
		"say(try 5 ! say(a) catch C:V -> {C, V} end) => a {error, badarg}",
		"say(try say({}) ! say(a) catch C:V -> {C, V} end) => {} a {error, badarg}",
		"say(try {me} ! a catch C:V -> {C, V} end) => {error, badarg}",
		"say(try {me, local, 1} ! a catch C:V -> {C, V} end) => {error, badarg}",
		"say(try {self(), local} ! a catch C:V -> {C, V} end) => {error, badarg}",
		"say(try {me, self()} ! a catch C:V -> {C, V} end) => {error, badarg}",
		"say(try {me, 1} ! a catch C:V -> {C, V} end) => {error, badarg}",
		"say(try [me, local] ! a catch C:V -> {C, V} end) => {error, badarg}",
		"say(try \"me\" ! a catch C:V -> {C, V} end) => {error, badarg}",
		"say(try make_ref() ! a catch C:V -> {C, V} end) => {error, badarg}",
		"say(try <<\"me\">> ! a catch C:V -> {C, V} end) => {error, badarg}",
		"say(try #{} ! a catch C:V -> {C, V} end) => {error, badarg}",
		"say(try (fun ends/0) ! a catch C:V -> {C, V} end) => {error, badarg}",
	)
	tells(t, "main(P) -> say(P ! a)."+takers, "spawn main [#p7]; run 1; run 1", "1 from #p0; 1: a; 1 ends normal")
	tells(t, "main(P) -> say(P ! a)."+takers, "spawn main [#p0]; run 1", "1 from #p0; 1: a; 1 ends normal")
	tells(t, "main(P) -> say(P ! a)."+takers, "spawn main [#p1000000000000000]; run 1", "1 from #p0; 1: a; 1 ends normal")
}

// Who waits becomes ready, at the end of its row; who is ready already stays where it is.
func TestLettersWake(t *testing.T) {
	forms := "main(P) -> P ! a, P ! b. loop() -> loop()." + takers
	r := lived(t, forms, "spawn takes; spawn main [#p1]; spawn loop; run 2")
	if fmt.Sprint(r.Ready) != "[3 1]" || seen(r) != "1 ready [a, b] steps 3; 3 ready steps 0" {
		t.Error(reportText(r))
	}
	r = lived(t, forms, "spawn takes; spawn loop; spawn main [#p1]; spawn main [#p1]; run 4")
	if fmt.Sprint(r.Ready) != "[2 1]" || seen(r) != "1 ready [a, b, a, b] steps 3; 2 ready steps 50" {
		t.Error(reportText(r))
	}
	tells(t, forms, "spawn takes; spawn main [#p1]; run 3", "1 from #p0; 2 from #p0; 2 ends normal; 1: a; 1: b")
}

// A receive: letters that are passed over, what is taken, and where the save point is.
func TestReceives(t *testing.T) {
	eachSays(t, "two() -> receive y -> say(y2) end.",
		"self() ! a, self() ! x, self() ! b, receive x -> say(got) end, receive X -> say(X) end, receive Y -> say(Y) end => got a b",
		"self() ! a, self() ! x, self() ! x, receive x -> receive x -> say(both) end end, receive X -> say(X) end => both a",
		// A receive within: it looks at all letters from the first one on.
		"self() ! y, self() ! x, receive x -> receive y -> say(inner) end end => inner",
		"self() ! y, self() ! x, self() ! y, receive x -> two(), receive Z -> say(Z) end end => y2 y",
		"self() ! a, self() ! b, receive b -> receive X -> say(X) after 0 -> say(none) end end, receive Y -> say(Y) after 0 -> say(none) end => a none",
		// The value of a receive is that of the clause.
		"self() ! a, say(receive X -> {X} end) => {a}",
		"say(receive x -> 1 after 0 -> {late} end) => {late}",
		// Bound variables, and guards; what a clause binds is not bound behind it.
		"X = b, self() ! a, self() ! b, receive X -> say({took, X}) end, receive Y -> say(Y) end => {took, b} a",
		"self() ! 1, self() ! 2, self() ! 3, receive X when X > 1 -> say(X) end, receive X when X > 1 -> say(X) end, receive X -> say(X) end => 2 3 1",
		"self() ! 1, self() ! a, receive X when X + 1 == 2 -> say(X) end, receive Z -> say(Z) end => 1 a",
		"self() ! a, self() ! 1, receive X when X + 1 == 2 -> say(X) end, receive Z -> say(Z) end => 1 a",
		// The first clause that fits takes it, of the first letter that any fits.
		"self() ! b, self() ! a, receive a -> say(1); b -> say(2); _ -> say(3) end, receive a -> say(1); b -> say(2) end => 2 1",
		"self() ! c, self() ! a, receive a -> say(1); _ -> say(3) end => 3",
		// Without clauses all are passed over.
		"self() ! a, receive after 0 -> say(late) end, receive X -> say(X) end => late a",
		// after 0: letters that are there are looked at first.
		"self() ! a, receive X -> say(X) after 0 -> say(late) end => a",
		"self() ! a, receive b -> say(b) after 0 -> say(late) end, receive X -> say(X) end => late a",
		"receive X -> X after 0 -> self() ! b, receive Y -> say(Y) end end => b",
		// What goes up in a clause: the letter is gone; in a guard it is passed over.
		"self() ! a, try receive X -> hd(X) end catch _:_ -> say(up) end, receive Y -> say(Y) after 0 -> say(none) end => up none",
		"self() ! a, receive X when hd(X) -> say(X) after 0 -> say(late) end, receive Y -> say(Y) after 0 -> say(none) end => late a",
		// Letters that were sent while it looked: sent by a clause's body, behind the others.
		"self() ! a, receive a -> self() ! c, self() ! d end, receive d -> say(d) end, receive c -> say(c) end => d c",
		// The time: infinity, the least and the greatest; what is none.
		"self() ! a, receive X -> say(X) after infinity -> say(late) end => a",
		"self() ! a, receive X -> say(X) after 1000000000 -> say(late) end => a",
		"say(try receive X -> X after 1000000001 -> y end catch C:V -> {C, V} end) => {error, badarg}",
		"say(try receive X -> X after 0 - 1 -> y end catch C:V -> {C, V} end) => {error, badarg}",
		"say(try receive X -> X after x -> y end catch C:V -> {C, V} end) => {error, badarg}",
		"say(try receive X -> X after [1] -> y end catch C:V -> {C, V} end) => {error, badarg}",
		"say(try receive X -> X after \"infinity\" -> y end catch C:V -> {C, V} end) => {error, badarg}",
		"self() ! a, say(try receive X -> X after x -> y end catch C:V -> {C, V} end), receive Y -> say(Y) end => {error, badarg} a",
		// The after's expression is worked out ahead, also with a receive in it.
		"self() ! 0, receive b -> 1 after receive N -> say(time), N end -> say(late) end => time late",
		"self() ! b, self() ! 0, receive b -> say(b) after receive N when N == 0 -> N end -> say(late) end => b",
	)
}

// A receive that is due goes on at its after, whatever woke it; a letter that a clause takes is ahead of that.
func TestReceivesThatAreDue(t *testing.T) {
	late := "main() -> receive x -> say({x, now()}) after 5 -> say({late, now()}) end."
	tells(t, late, "spawn main; run 1; tick 4; run 1", "1 from #p0")
	tells(t, late, "spawn main; run 1; tick 5", "1 from #p0")
	tells(t, late, "spawn main; run 1; tick 5; run 1", "1 from #p0; @5 1: {late, 5}; @5 1 ends normal")
	tells(t, late, "spawn main; run 1; tick 9; run 1", "1 from #p0; @9 1: {late, 9}; @9 1 ends normal")
	tells(t, late, "tick 7; spawn main; run 1; tick 4; run 1; tick 1; run 1", "@7 1 from #p0; @12 1: {late, 12}; @12 1 ends normal")
	// Looked at letters do not move what is due.
	tells(t, late, "spawn main; run 1; tick 3; send 1 y; run 1; tick 2; run 1", "1 from #p0; @5 1: {late, 5}; @5 1 ends normal")
	// Due, and a letter comes, ahead of its turn: the letter counts, unless no clause takes it.
	tells(t, late, "spawn main; run 1; tick 5; send 1 x; run 1", "1 from #p0; @5 1: {x, 5}; @5 1 ends normal")
	tells(t, late, "spawn main; run 1; tick 5; send 1 y; run 1", "1 from #p0; @5 1: {late, 5}; @5 1 ends normal")
	tells(t, late, "spawn main; run 1; send 1 y; tick 5; run 1", "1 from #p0; @5 1: {late, 5}; @5 1 ends normal")
	tells(t, late, "spawn main; run 1; send 1 x; tick 5; run 1", "1 from #p0; @5 1: {x, 5}; @5 1 ends normal")
	// A tick ahead of its first turn: its receive begins then.
	tells(t, late, "spawn main; tick 5; run 1; tick 4; run 1", "1 from #p0")
	// Without after, with infinity: never.
	shows(t, "main() -> receive x -> 1 end.", "spawn main; run 1; tick 1000000000; run 1", "1 waits steps 3")
	shows(t, "main() -> receive x -> 1 after infinity -> 2 end.", "spawn main; run 1; tick 1000000000; run 1", "1 waits steps 4")
	// The greatest time, met and missed by one.
	long := "main() -> receive x -> 1 after 1000000000 -> say(late) end."
	tells(t, long, "spawn main; run 1; tick 999999999; run 1", "1 from #p0")
	tells(t, long, "spawn main; run 1; tick 999999999; tick 1; run 1", "1 from #p0; @1000000000 1: late; @1000000000 1 ends normal")
	// The receive of a clause has a time of its own; that of the one around it is no more.
	inner := "main() -> receive x -> receive y -> 1 after 9 -> say({inner, now()}) end after 5 -> say(outer) end."
	tells(t, inner, "spawn main; run 1; send 1 x; run 1; tick 5; run 1", "1 from #p0")
	tells(t, inner, "spawn main; run 1; tick 4; send 1 x; run 1; tick 9; run 1", "1 from #p0; @13 1: {inner, 13}; @13 1 ends normal")
	// A time that is over while it does not wait does not wake it later.
	busy := "main() -> receive x -> lots(60) after 5 -> say(late) end, receive y -> say(y) end. lots(0) -> 0; lots(N) -> lots(N - 1)."
	r := shows(t, busy, "spawn main; run 1; send 1 x; run 1; tick 9; run 9", "1 waits steps 311")
	if len(r.Ready) != 0 {
		t.Error(r.Ready)
	}
}

// MaxLetters, met exactly and passed by one; who waits with so many is not woken.
func TestManyLetters(t *testing.T) {
	forms := "main(P) -> all(P, 100, x), say(sent). all(P, 0, _) -> 0; all(P, N, X) -> P ! {X, N}, all(P, N - 1, X). waits() -> receive never -> 1; {stop, N} -> say(N) end." + takers
	count := func(acts string, want int, waits bool) {
		t.Helper()
		r := lived(t, forms, acts)
		if len(r.Procs[0].Letters) != want || r.Procs[0].Waits != waits {
			t.Errorf("%d letters, waits %v; not %d, %v", len(r.Procs[0].Letters), r.Procs[0].Waits, want, waits)
		}
	}
	five := "spawn waits; run 1" + strings.Repeat("; spawn main [#p1]; run 60", 4)
	count(five+"; run 60", 400, true)
	count(five+"; spawn main [#p1]; run 100", 500, true)
	count(five+"; spawn main [#p1]; run 100; send 1 a", 500, true)
	count(five+"; spawn main [#p1]; run 100; send 1 {stop, 1}", 500, true)
	count(five+"; spawn main [#p1]; run 100; send 1 {stop, 1}; exit 1 normal; run 20", 500, true)
	count(five+"; send 1 {stop, 1}", 401, false)
	// One who has taken a letter has room for one more.
	r := lived(t, "main() -> all(500), self() ! lost, receive 1 -> 1 end, self() ! last, self() ! lost, receive never -> 1 end. all(0) -> 0; all(N) -> self() ! N, all(N - 1).", "spawn main; run 200")
	letters := r.Procs[0].Letters
	if len(letters) != 500 || !same(letters[0], num(500)) || !same(letters[499], atom("last")) || !same(letters[498], num(2)) {
		t.Error(len(letters), texts(letters))
	}
	// Letters of the node itself are not taken either: of exit, down, and send_after.
	r = lived(t, "main() -> trap_exit(true), all(500), link(element(2, {x, spawn(fun() -> exit(x) end)})), monitor(spawn(fun() -> exit(x) end)), send_after(1, self(), late), lots(200), receive never -> 1 end. all(0) -> 0; all(N) -> self() ! N, all(N - 1). lots(0) -> 0; lots(N) -> lots(N - 1).", "spawn main; run 200; tick 2")
	if len(r.Procs) != 1 || len(r.Procs[0].Letters) != 500 || !r.Procs[0].Waits || len(r.Procs[0].Links) != 0 {
		t.Error(reportText(r))
	}
}

// P15: two who send to one, cut between; what is passed over keeps its place.
func TestTwoSendersP15(t *testing.T) {
	forms := "main() -> register(to, self()), spawn(fun() -> send(a, 1) end), spawn(fun() -> send(b, 1) end), takes(), receive no -> 1 end. " +
		"send(_, 9) -> 0; send(S, N) -> to ! {S, N}, work(12), send(S, N + 1). work(0) -> 0; work(N) -> work(N - 1). " +
		"takes() -> receive {b, N} -> say({b, N}) end, receive {a, 2} -> say(second) end, receive {a, N} -> say({a, N}) end, receive X -> say(X), receive {a, N} -> say({a, N}) end end."
	r := lived(t, forms, "spawn main; run 200")
	if got := sayings(r, 1); got != "{b, 1} second {a, 1} {b, 2} {a, 3}" {
		t.Error(got)
	}
	last := map[string]int{}
	for _, letter := range r.Procs[0].Letters {
		if s := letter.Kids[0].S; last[s] >= letter.Kids[1].N {
			t.Error(texts(r.Procs[0].Letters))
		} else {
			last[s] = letter.Kids[1].N
		}
	}
}

// A letter is the term that was sent, of each Kind.
func TestLettersAreTheTerms(t *testing.T) {
	for _, x := range anyTerms(60) {
		r := nodeRun(t, "module m. main(X) -> self() ! X, receive Y -> say(Y), say(Y == X) end.", []impl.Act{{Kind: impl.AcSpawn, Name: "main", V: list(x)}, {Kind: impl.AcRun, N: 1}})
		if len(r.Events) != 4 || !same(r.Events[1].V, x) || !isYes(r.Events[2].V) {
			t.Error(texts([]impl.Term{x}), told(r))
		}
		r = nodeRun(t, "module m. main() -> receive Y -> say(Y) end.", []impl.Act{{Kind: impl.AcSpawn, Name: "main", V: list()}, {Kind: impl.AcSend, N: 1, V: x}, {Kind: impl.AcRun, N: 1}})
		if len(r.Events) != 3 || !same(r.Events[1].V, x) {
			t.Error(texts([]impl.Term{x}), told(r))
		}
	}
}
