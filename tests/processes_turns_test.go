package tests

import (
	"fmt"
	"math"
	"slices"
	"strings"
	"testing"

	"loop.example/g00019/impl"
)

func TestWhoIsChosen(t *testing.T) {
	for _, x := range []struct {
		high, normal, low string
		since             int
		pid, then         int
	}{
		{"", "", "", 3, 0, 3}, {"", "", "", 9, 0, 9}, {"", "", "", math.MaxInt, 0, math.MaxInt},
		{"4", "", "", 3, 4, 3}, {"4 5", "6", "7", 8, 4, 8}, {"4", "", "7", 9, 4, 9}, {"4", "6", "", 0, 4, 0}, {"4", "6", "7", math.MaxInt, 4, math.MaxInt},
		{"", "6 7", "", 0, 6, 1}, {"", "6", "", 8, 6, 9}, {"", "6", "", math.MaxInt, 6, math.MinInt}, {"", "6", "", -1, 6, 0}, {"", "6", "", math.MinInt, 6, math.MinInt + 1},
		{"", "", "8 9", 0, 8, 0}, {"", "", "8", 5, 8, 0}, {"", "", "8", -3, 8, 0},
		{"", "6", "8", 0, 6, 1}, {"", "6", "8", 6, 6, 7}, {"", "6", "8", 7, 6, 8}, {"", "6", "8", 8, 8, 0}, {"", "6", "8", 9, 8, 0}, {"", "6", "8", math.MaxInt, 8, 0},
		{"", "6", "8", -1, 6, 0}, {"", "6", "8", math.MinInt, 6, math.MinInt + 1},
		{"", "-2", "", 1, -2, 2}, {"-9", "1", "1", 1, -9, 1},
	} {
		rows := [3][]int{}
		for i, text := range []string{x.high, x.normal, x.low} {
			rows[i] = numbersIn(text)
		}
		room := [3][]int{}
		for i := range rows {
			room[i] = append(make([]int, 0, len(rows[i])+1), rows[i]...)
			room[i][: len(rows[i])+1 : cap(room[i])][len(rows[i])] = 77
		}
		pid, then := impl.Choose(room[0], room[1], room[2], x.since)
		if pid != x.pid || then != x.then {
			t.Error(x, pid, then)
		}
		for i, row := range room {
			if !slices.Equal(row, rows[i]) || row[:len(row)+1][len(row)] != 77 {
				t.Error(x, "is written into")
			}
		}
	}
}

func numbersIn(text string) []int {
	var row []int
	for _, word := range strings.Fields(text) {
		row = append(row, term(word).N)
	}
	return row
}

// Choose by chance, held against the words.
func TestWhoIsChosenByChance(t *testing.T) {
	r := newChance(104)
	for range 5000 {
		rows := [3][]int{}
		for i := range rows {
			for range r.Intn(3) {
				rows[i] = append(rows[i], 1+r.Intn(9))
			}
		}
		since := r.Intn(12) - 1
		pid, then := impl.Choose(rows[0], rows[1], rows[2], since)
		if wantPid, wantThen := chosenByWords(rows, since); pid != wantPid || then != wantThen {
			t.Fatal(rows, since, pid, then)
		}
	}
}

func TestWhatASignalDoes(t *testing.T) {
	for _, x := range []struct {
		trap, link bool
		reason     string
		what       int
		why        string
	}{
		{false, false, "kill", impl.SgDie, "killed"}, {true, false, "kill", impl.SgDie, "killed"}, {false, true, "kill", impl.SgDie, "kill"}, {true, true, "kill", impl.SgLetter, ""},
		{false, false, "normal", impl.SgIgnore, ""}, {false, true, "normal", impl.SgIgnore, ""}, {true, false, "normal", impl.SgLetter, ""}, {true, true, "normal", impl.SgLetter, ""},
		{false, false, "why", impl.SgDie, "why"}, {false, true, "why", impl.SgDie, "why"}, {true, false, "why", impl.SgLetter, ""}, {true, true, "why", impl.SgLetter, ""},
		{false, false, "{kill}", impl.SgDie, "{kill}"}, {false, false, "[normal]", impl.SgDie, "[normal]"}, {false, true, "{normal, #{a => [1]}}", impl.SgDie, "{normal, #{a => [1]}}"},
		{false, false, "killed", impl.SgDie, "killed"}, {true, false, "killed", impl.SgLetter, ""}, {false, true, "#p1", impl.SgDie, "#p1"}, {false, true, "<<107>>", impl.SgDie, "<<107>>"},
	} {
		what, why, code := impl.Signal(x.trap, x.link, term(x.reason))
		want := impl.Term{}
		if x.why != "" {
			want = term(x.why)
		}
		if what != x.what || !same(why, want) || code != impl.OK {
			t.Error(x, what, why, code)
		}
	}
}

// Of reasons by chance a signal does what the words say, and what it answers is new.
func TestSignalsByChance(t *testing.T) {
	for _, reason := range append(anyTerms(500), atom("kill"), atom("normal")) {
		for flags := range 4 {
			trap, link := flags%2 == 1, flags > 1
			room := roomyRow([]impl.Term{reason})
			before := wideRow(room)
			what, why, code := impl.Signal(trap, link, room[0])
			wantWhat, want := signalByWords(trap, link, reason)
			if what != wantWhat || !same(why, want) || code != impl.OK {
				t.Fatal(trap, link, reason, what, why, code)
			}
			if !sameRow(wideRow(room), before) {
				t.Fatal("writes into", reason)
			}
			keepsApart(t, "Signal", room, []impl.Term{why})
		}
	}
	for name, reason := range wrongTerms() {
		for flags := range 4 {
			if what, why, code := impl.Signal(flags%2 == 1, flags > 1, reason); what != 0 || !zero(why) || code != impl.ErrBad {
				t.Error(name, what, why, code)
			}
		}
	}
}

// counted is a body of so many steps (at least 2), with the call of the function that it is of: the call, a call of is_atom for each 3, and atoms.
func counted(steps int) string {
	var parts []string
	for steps--; steps > 3; steps -= 3 {
		parts = append(parts, "is_atom(x)") // its step, that of x, and that of the function
	}
	for range steps {
		parts = append(parts, "y")
	}
	return strings.Join(parts, ", ")
}

func TestTurns(t *testing.T) {
	for _, x := range []struct {
		steps, turns int
		want         string
	}{
		{49, 1, ""}, {50, 1, ""}, {51, 1, "1 ready steps 50"}, {51, 2, ""}, {100, 1, "1 ready steps 50"}, {100, 2, ""}, {101, 2, "1 ready steps 100"}, {101, 3, ""}, {152, 3, "1 ready steps 150"}, {2, 1, ""}, {2, 0, "1 ready steps 0"},
	} {
		r := shows(t, "main() -> "+counted(x.steps)+".", fmt.Sprint("spawn main; run ", x.turns), x.want)
		if _, ended := endOf(r, 1); ended != (x.want == "") {
			t.Error(x, told(r))
		}
	}
}

// Which steps count, and where a process stands when its turn is over ahead of one.
func TestWhereTurnsAreCut(t *testing.T) {
	for _, x := range []struct {
		ahead int // steps ahead of what is asked about, with the call of main
		body  string
		want  string
	}{
		{49, "say(x)", "1 from #p0; 1: x; 1 ends normal"}, // its own step is the 50th, that of x the 51st: a second turn
		{47, "say(x)", "1 from #p0; 1: x; 1 ends normal"},
		{48, "say(x)", "1 from #p0"}, // the function's step is the 51st
		{47, "spawn(fun f/0)", "1 from #p0; 2 from #p1; 1 ends normal"},
		{48, "spawn(fun f/0)", "1 from #p0"},
		{46, "self() ! x", "1 from #p0; 1 ends normal"}, // OpSend counts none
		{46, "f()", "1 from #p0; 1 ends normal"},
		{48, "f()", "1 from #p0"}, // the step of f's body is the 51st
		{47, "f()", "1 from #p0; 1 ends normal"},
		{46, "(fun f/0)()", "1 from #p0; 1 ends normal"},
		{47, "(fun f/0)()", "1 from #p0"},
		{45, "[say(X) || X <- []]", "1 from #p0; 1 ends normal"},
		{48, "[say(X) || X <- []]", "1 from #p0"}, // the generator's step
		{46, "m:node()", "1 from #p0; 1 ends normal"},
		{49, "m:node()", "1 from #p0"},
	} {
		turns := 1
		if x.ahead == 49 && strings.HasPrefix(x.body, "say") {
			turns = 2
		}
		tells(t, "main() -> "+counted(x.ahead)+", "+x.body+". f() -> x.", fmt.Sprint("spawn main; run ", turns), x.want)
	}
}

// An OpLetter is a step, each time; a process that waits is not ready, and its turn is over.
func TestStepsOfReceive(t *testing.T) {
	wait := "main() -> receive x -> say(x) end."
	shows(t, wait, "spawn main; run 1", "1 waits steps 3") // the call, the receive, the letter
	shows(t, wait, "spawn main; run 9", "1 waits steps 3")
	shows(t, wait, "spawn main; run 1; send 1 y", "1 ready [y] steps 3")
	shows(t, wait, "spawn main; run 1; send 1 y; run 1", "1 waits [y] steps 5") // a step for the OpLetter again, one for the next
	shows(t, wait, "spawn main; send 1 y; send 1 y; run 1", "1 waits [y, y] steps 5")
	tells(t, wait, "spawn main; run 1; send 1 x; run 1", "1 from #p0; 1: x; 1 ends normal")
	// With an after: a step for its time, and one for the OpLetter that is late.
	shows(t, "main() -> receive x -> 1 after 5 -> loop() end. loop() -> loop().", "spawn main; run 1", "1 waits steps 4")
	shows(t, "main() -> receive x -> 1 after 0 -> receive y -> 1 end end.", "spawn main; run 1", "1 waits steps 6")
	// The OpLetter is the 50th step, the 51st.
	shows(t, "main() -> "+counted(48)+", receive x -> 1 end.", "spawn main; run 1", "1 waits steps 50")
	shows(t, "main() -> "+counted(49)+", receive x -> 1 end.", "spawn main; run 1", "1 ready steps 50")
	shows(t, "main() -> "+counted(49)+", receive x -> 1 end.", "spawn main; run 2", "1 waits steps 51")
	// Turns are cut between letters, and in a guard; the letter that was pushed is still there.
	shows(t, "main() -> "+counted(47)+", receive x -> 1 end.", "spawn main; send 1 a; send 1 b; send 1 c; run 1", "1 ready [a, b, c] steps 50")
	shows(t, "main() -> "+counted(47)+", receive x -> 1 end.", "spawn main; send 1 a; send 1 b; send 1 c; run 2", "1 waits [a, b, c] steps 52")
	shows(t, "main() -> "+counted(48)+", receive X when X == a -> say(X), receive y -> 1 end end.", "spawn main; send 1 a; run 1", "1 ready [a] steps 50")
	shows(t, "main() -> "+counted(48)+", receive X when X == a -> say(X), receive y -> 1 end end.", "spawn main; send 1 a; run 1; send 1 b; run 1", "1 waits [b] steps 59")
}

// Who is ready stands at the end of the row of its priority.
func TestRowsOfTheReady(t *testing.T) {
	loop := "main(P) -> priority(P), loop(). loop() -> loop(). say(X) -> impl:x(). late() -> receive x -> loop() after 3 -> loop() end. lp() -> priority(low), loop(). hp() -> priority(high), loop()."
	ready := func(acts string, since int, want ...int) {
		t.Helper()
		r := lived(t, loop, acts)
		if !slices.Equal(r.Ready, want) || r.Since != since {
			t.Errorf("%s: ready %v, since %d, not %v, %d", acts, r.Ready, r.Since, want, since)
		}
	}
	ready("spawn loop; spawn loop; spawn loop", 0, 1, 2, 3)
	ready("spawn loop; spawn loop; spawn loop; run 1", 1, 2, 3, 1)
	ready("spawn loop; spawn loop; spawn loop; run 5", 5, 3, 1, 2)
	ready("spawn loop; spawn loop; spawn loop; run 5; spawn loop", 5, 3, 1, 2, 4)
	// Low behind normal until since is 8; high ahead of all, with since as it was.
	ready("spawn lp; spawn loop; run 1", 1, 2, 1)
	ready("spawn lp; spawn loop; run 2", 2, 2, 1)
	ready("spawn lp; spawn loop; spawn loop; run 8", 8, 3, 2, 1)
	ready("spawn lp; spawn lp; spawn loop; run 8", 8, 3, 1, 2)
	ready("spawn lp; spawn lp; spawn loop; run 9", 0, 3, 2, 1)
	ready("spawn lp; spawn lp; spawn loop; run 17", 8, 3, 2, 1)
	ready("spawn lp; spawn lp; spawn loop; run 18", 0, 3, 1, 2)
	ready("spawn lp; run 1", 1, 1)
	ready("spawn lp; run 2", 0, 1)
	ready("spawn hp; spawn loop; run 1", 1, 1, 2)
	ready("spawn hp; spawn loop; run 9", 1, 1, 2)
	ready("spawn hp; spawn hp; spawn loop; run 2", 1, 1, 2, 3)
	ready("spawn hp; spawn hp; spawn loop; run 3", 1, 1, 2, 3)
	ready("spawn hp; spawn lp; spawn loop; run 5", 1, 1, 2, 3)
	// Who waits is in no row; ready again it is the last one.
	ready("spawn late; spawn loop; run 2", 2, 2)
	ready("spawn late; spawn loop; run 2; send 1 y", 2, 2, 1)
	ready("spawn late; spawn loop; spawn loop; run 2; tick 2", 2, 3, 2)
	ready("spawn late; spawn loop; spawn loop; run 2; tick 3", 2, 3, 2, 1)
	ready("spawn late; spawn late; spawn loop; run 3; send 2 y; send 1 y; send 2 y", 3, 3, 2, 1)
	ready("spawn late; run 5", 1)
	ready("run 3", 0)
}

// A process that is born is the last one of the normal row at once, ahead of the one that spawned it.
func TestTheBornAreReady(t *testing.T) {
	r := lived(t, "main() -> priority(low), spawn(fun loop/0), spawn(fun loop/0), loop(). loop() -> loop().", "spawn main; spawn loop; run 1")
	if !slices.Equal(r.Ready, []int{2, 3, 4, 1}) {
		t.Error(r.Ready)
	}
	r = lived(t, "main() -> spawn(fun loop/0), loop(). loop() -> loop().", "spawn main; run 1")
	if !slices.Equal(r.Ready, []int{2, 1}) {
		t.Error(r.Ready)
	}
}
