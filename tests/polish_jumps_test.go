package tests

import (
	"fmt"
	"strings"
	"testing"

	"loop.example/g00019/impl"
)

// What chains of jumps are tried with: between them stands what is reached from elsewhere.
const (
	chainHead = "f/1 0: Dup; Filter x; Dup; Filter y; Dup; Filter z; "
	chainBody = "\nj1: Jump j2\nx: Fail 0 x\nj2: Jump j3\ny: Fail 0 y\nj3: Jump end\nz: Fail 0 z\nend: Return"
	chainLess = "\nx: Fail 0 x\ny: Fail 0 y\nz: Fail 0 z\nend: Return"
)

// P10: who goes to a jump goes to where that goes, and so on; who nobody goes to any longer is left out.
func TestChainsOfJumpsP10(t *testing.T) {
	polishes(t,
		chainHead+"Dup; Filter j1; Fail 0 f"+chainBody+" ~> "+chainHead+"Dup; Filter end; Fail 0 f"+chainLess,
		chainHead+"Dup; Filter j2; Dup; Filter j3; Dup; Filter end; Fail 0 f"+chainBody+" ~> "+chainHead+"Dup; Filter end; Dup; Filter end; Dup; Filter end; Fail 0 f"+chainLess,
		chainHead+"Dup; Drop"+chainBody+" ~> "+chainHead+"Dup; Drop; Jump end"+chainLess,
		chainHead+"Dup; Filter on; Jump j2\non: Jump j1"+chainBody+" ~> "+chainHead+"Dup; Filter end; Jump end"+chainLess,
		// A handler's place stays, and so does the jump there.
		chainHead+"Guard j1; Fail 0 f"+chainBody+" ~> "+chainHead+"Guard j1; Fail 0 f\nj1: Jump end"+chainLess,
		chainHead+"Guard j2; Ended; Guard j1; Fail 0 f"+chainBody+" ~> "+chainHead+"Guard j2; Ended; Guard j1; Fail 0 f\nj1: Jump end\nx: Fail 0 x\nj2: Jump end\ny: Fail 0 y\nz: Fail 0 z\nend: Return",
	)
}

// P10: each operation whose A names a place goes through such a chain, but for OpTry and OpGuard.
func TestWhoGoesThroughChainsP10(t *testing.T) {
	seen := map[string]bool{"Step": true}
	for _, row := range []string{
		"Pick 0; Is @ 1 b", "Pick 0; Same @ 1 0", "Pick 0; Untuple @ 1 0", "Pick 0; Unlist @ 1 0", "Pick 0; Untail @ 1 0", "Pick 0; IsMap @ 1", "Get @ 1 b", "IsBin @ 1", "Pick 0; Pick 0; Take @ 1 8 int", "Pick 0; Pick 0; End @ 1", "Pick 0; Pick 0; Pick 0; Took @ 1",
		"Also @ orelse; Push 1", "Pick 0; Pick 0; Next @; Cut 1", "Pick 0; Pick 0; More @; Cut 1", "Pick 0; Filter @", "Letter @", "Guard @", "Cut 0; Try @; Push 1; Drop", "Jump @",
	} {
		head := "f/1 1: Dup; Filter x; Dup; Filter y; "
		away := "Fail 0 f\n"
		if row == "Jump @" { // nothing goes on behind it
			away = ""
		}
		if strings.Contains(row, "Try") { // two values more are there
			head = "f/1 1: Dup; Dup; Filter x; Filter y; "
		}
		text := head + row + "; " + away + "j1: Jump j2\nx: Fail 0 x\nj2: Jump on\ny: Fail 0 y\non: Fail 0 on"
		want := head + strings.ReplaceAll(row, "@", "on") + "; " + away + "x: Fail 0 x\ny: Fail 0 y\non: Fail 0 on"
		if strings.Contains(row, "Try") || strings.Contains(row, "Guard") {
			want = head + row + "; " + away + "j1: Jump on\nx: Fail 0 x\ny: Fail 0 y\non: Fail 0 on"
		}
		text, want = strings.ReplaceAll(text, "@", "j1"), strings.ReplaceAll(want, "@", "j1")
		polishes(t, text+" ~> "+want)
		for _, n := range codeOf(text).Ins {
			seen[opRows[n.Op].name] = seen[opRows[n.Op].name] || isPlace(n)
		}
	}
	for _, row := range opRows[1:] {
		if !seen[row.name] && strings.Contains(row.fields, "A") {
			t.Error("not tried:", row.name)
		}
	}
	// What OpStep's A counts is no place, nor is what other fields say.
	polishes(t,
		"f/1 0: Dup; Filter x; Step 3; Jump on\nx: Fail 0 x\non: Return",
		"f/1 4: Dup; Filter x; Push 1; Jump on\nx: Fail 0 x\non: Store 3; Pick 0; Drop; Load 3; Drop; Return",
	)
}

// P10: only a jump may be led back.
func TestChainsThatGoBackP10(t *testing.T) {
	polishes(t,
		// A jump to one that goes back goes back itself.
		"f/1 0: Push 0\nnext: Next out; Filter b; Jump over\nb: Fail 0 b\nover: Jump next\nout: Push 1; Return ~> f/1 0: Push 0\nnext: Next out; Filter b; Jump next\nb: Fail 0 b\nout: Push 1; Return",
		"f/1 0: Push 0\nnext: Next out; Filter b; Jump o1\nb: Jump o2\no1: Jump o2\nc: Fail 0 c\no2: Jump next\nout: Push 1; Return ~> f/1 0: Push 0\nnext: Next out; Filter o2; Jump next\no2: Jump next\nout: Push 1; Return",
		// What is no jump stays at the last one ahead of that.
		"f/1 0: Push 0\nnext: Next out; Filter over; Fail 0 b\nover: Jump next\nout: Push 1; Return",
		"f/1 0: Push 0\nnext: Next out; Dup; Filter x; Filter o1; Fail 0 b\no1: Jump o2\nx: Fail 0 x\no2: Jump next\nout: Push 1; Return ~> f/1 0: Push 0\nnext: Next out; Dup; Filter x; Filter o2; Fail 0 b\nx: Fail 0 x\no2: Jump next\nout: Push 1; Return",
		"f/1 0: Push 0\nnext: Next out; Dup; Is x 2 1; Is o1 2 1; Jump o1\nx: Fail 0 x\no1: Jump o2\ny: Fail 0 y\no2: Jump next\nout: Push 1; Return ~> f/1 0: Push 0\nnext: Next out; Dup; Is x 2 1; Is o2 2 1; Jump next\nx: Fail 0 x\no2: Jump next\nout: Push 1; Return",
		"f/1 0: Push 0\na: Next out; Push 0\nb: Next over; Drop; Jump b\nover: Jump a\nout: Push 1; Return",
		"f/1 0: Push 0\na: Next out; Push 0\nb: More o1; Cut 4; Jump b\no1: Jump o2\nx: Fail 0 x\no2: Jump a\nout: Push 1; Return ~> f/1 0: Push 0\na: Next out; Push 0\nb: More o2; Cut 4; Jump b\no2: Jump a\nout: Push 1; Return",
		// One that goes back to what is behind who goes there is followed.
		"f/1 0: Dup; Filter o; Jump in\nin: Letter late; Drop; Dup; Filter x\no: Jump in\nx: Fail 0 x\nlate: Return ~> f/1 0: Dup; Filter in\nin: Letter late; Drop; Dup; Filter x; Jump in\nx: Fail 0 x\nlate: Return",
		// Chains that lead round.
		"f/1 0: n: Letter j; Fail 0 a\nj: Jump n",
		"f/1 0: n: Letter j; Fail 0 a\nj: Jump k\nk: Jump n ~> f/1 0: n: Letter k; Fail 0 a\nk: Jump n",
		"f/1 0: n: Letter j; Drop; Jump j\nx: Fail 0 x\nj: Jump k\ny: Fail 0 y\nk: Jump n ~> f/1 0: n: Letter k; Drop; Jump n\nk: Jump n",
	)
}

// P10: jumps to what follows are left out, and what names them names that.
func TestJumpsToWhatFollowsP10(t *testing.T) {
	polishes(t,
		"f/1 0: Jump a\na: Return ~> f/1 0: Return",
		"f/1 0: Jump a\na: Jump b\nb: Jump c\nc: Return ~> f/1 0: Return",
		"f/1 0: Jump c\na: Jump c\nb: Jump c\nc: Return ~> f/1 0: Return",
		"f/1 0: Step 1; Jump on\non: Step 2; Return ~> f/1 0: Step 1; Step 2; Return",
		// With what is left out between.
		"f/1 0: Dup; Filter b; Jump c\nb: Jump c\nc: Return ~> f/1 0: Dup; Filter c\nc: Return",
		"f/1 0: Dup; Filter b; Guard b; Ended; Jump c\nb: Jump c\nc: Return ~> f/1 0: Dup; Filter c; Guard c; Ended\nc: Return",
		"f/1 0: Dup; Filter a; Dup; Filter b; Jump c\na: Jump c\nb: Jump c\nc: Return ~> f/1 0: Dup; Filter c; Dup; Filter c\nc: Return",
		// With something that stays between.
		"f/1 0: Dup; Filter b; Jump c\nb: Step 1; Jump c\nc: Return ~> f/1 0: Dup; Filter b; Jump c\nb: Step 1\nc: Return",
		"f/1 0: Dup; Filter b; Jump c\nb: Jump d\nc: Return\nd: Fail 0 d ~> f/1 0: Dup; Filter d; Jump c\nc: Return\nd: Fail 0 d",
		"f/1 0: Dup; Filter c; Jump d\nb: Jump c\nc: Step 1; Jump d\nd: Return ~> f/1 0: Dup; Filter c; Jump d\nc: Step 1\nd: Return",
		// A handler's place, a block's first place, the end of a block.
		"f/1 0: Guard on; Fail 0 f\non: Jump e\ne: Return ~> f/1 0: Guard on; Fail 0 f\non: Return",
		"f/1 0: Try on; Fail 0 f\non: Jump k\nk: Jump e\ne: Tuple 3; Return ~> f/1 0: Try e; Fail 0 f\ne: Tuple 3; Return",
		"f/0 0: Guard on; Fail 0 f\non: Jump e\ne: Fail 0 e\ng/0 0: Jump x\nx: Fail 0 g\nh/0 0: Guard on2; Jump z\nz: Fail 0 z\non2: Jump y\ny: Fail 0 y ~> f/0 0: Guard on; Fail 0 f\non: Fail 0 e\ng/0 0: Fail 0 g\nh/0 0: Guard y; Fail 0 z\ny: Fail 0 y",
		"f/1 0: Jump a\na: Return\ng/1 0: Jump b\nb: Return\nfun/1 0: Jump c\nc: Return ~> f/1 0: Return\ng/1 0: Return\nfun/1 0: Return",
		// One that goes back is never left out.
		"f/1 0: Push 0\nnext: Next out; Drop; Jump next\nout: Push 1; Return",
		"f/1 0: Push 0; Jump next\nnext: Next out; Drop; Jump over\nover: Jump next\nout: Push 1; Return ~> f/1 0: Push 0\nnext: Next out; Drop; Jump next\nout: Push 1; Return",
	)
}

// P10: chains as long as code may be.
func TestLongChainsP10(t *testing.T) {
	var row strings.Builder
	row.WriteString("f/1 0: Dup; Filter p0; Letter p1; Drop; ")
	for k := range impl.MaxIns - 6 {
		fmt.Fprintf(&row, "p%d: Jump p%d; ", k, k+1)
	}
	fmt.Fprintf(&row, "p%d: Return; Fail 0 no", impl.MaxIns-6)
	code := codeOf(row.String())
	less, wrong := impl.Polish(code)
	if want := codeOf("f/1 0: Dup; Filter end; Letter end; Drop\nend: Return"); len(code.Ins) != impl.MaxIns || wrong != impl.OK || !sameCode(less, want) {
		t.Error(len(code.Ins), wrong, len(less.Ins))
	}
}
