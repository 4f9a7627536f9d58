package tests

import (
	"fmt"
	"strings"
	"testing"

	"loop.example/g00019/impl"
)

// P10: what is not reached is left out, and what stands behind it moves.
func TestUnreachedIsLeftOutP10(t *testing.T) {
	polishes(t,
		"f/1 0: Return; Push 1; Drop ~> f/1 0: Return",
		"f/1 0: Return; Push 1\ng/0 0: Push 2; Return; Step 3; Fail 0 a\nh/2 0: Fail 1 h ~> f/1 0: Return\ng/0 0: Push 2; Return\nh/2 0: Fail 1 h",
		"f/1 0: Is no 0 1; Fail 0 a; Push 9; Drop\nno: Fail 0 b ~> f/1 0: Is no 0 1; Fail 0 a\nno: Fail 0 b",
		"f/1 0: Dup; Is no 1 1; Fail 0 a; Push 9; Drop\nno: Try on; Fail 0 b; Jump on; Jump no\non: Fail 0 c; Jump on ~> f/1 0: Dup; Is no 1 1; Fail 0 a\nno: Try on; Fail 0 b\non: Fail 0 c",
		"f/1 0: Push 0\nnext: Next out; Jump b; Drop; Jump next\nb: Cut 2; Jump next; Fail 0 no\nout: Push 1; Return ~> f/1 0: Push 0\nnext: Next out; Cut 2; Jump next\nout: Push 1; Return",
		"f/0 0: Push 1; Return\nself: Jump self ~> f/0 0: Push 1; Return",
		"f/0 0: Push 1; Return\nback: Letter late; Drop; Jump back\nlate: Fail 0 late\ng/0 0: Fail 0 g ~> f/0 0: Push 1; Return\ng/0 0: Fail 0 g",
		// What is left out makes no seam, and no places that lie apart.
		"f/1 1: Store 0; Step 1; Load 0\nx: Step 1; Load 0; Tuple 2; Return; Jump x ~> f/1 1: Store 0; Step 2; Load 0; Load 0; Tuple 2; Return",
		"f/0 0: Push 1\nx: Push 2; Tuple 2; Return; Is x2 0 1; Jump x\nx2: Jump x ~> f/0 0: Push {1, 2}; Return",
		"f/1 0: Jump on; Push 1; Drop\non: Return ~> f/1 0: Return",
		"f/1 0: Is a 0 1; Fail 0 is\na: Jump b; Push 1; Jump a\nb: Fail 0 b ~> f/1 0: Is b 0 1; Fail 0 is\nb: Fail 0 b",
	)
}

// P10: tables stay as they are, but for At.
func TestTablesOfPolishedCodeP10(t *testing.T) {
	code := callable("Jump a; Push 1\na: Step 1; Push b; Step 1; Push c; Tuple 2; Call 2; Return")
	want := callable("Step 2; Push {b, c}; Call 2; Return")
	less := polished(t, code)
	if !sameCode(less, want) {
		t.Error(unlike(less, want))
	}
	saysTheSame(t, newChance(72), code, less, 50)
	for k, f := range less.Fns {
		if f.At != code.Fns[k].At-map[bool]int{true: 5}[k > 0] {
			t.Error(k, f.At)
		}
		f.At = code.Fns[k].At
		if f != code.Fns[k] {
			t.Error(f, code.Fns[k])
		}
	}
}

// P10: all four passes, each with what those ahead of it left.
func TestPassesFollowOneAnotherP10(t *testing.T) {
	polishes(t,
		// 1 ahead of 3: nothing stands between.
		"f/1 0: Jump on; Fail 0 a\non: Return ~> f/1 0: Return",
		// 1 and 2 ahead of 3: an instruction that is left out stands between no longer, but that it was one decides nothing.
		"f/1 0: Dup; Is no 1 1; Push 2; Unary -; Jump end; Fail 0 x\nno: Push 3\nend: Tuple 2; Return ~> f/1 0: Dup; Is no 1 1; Push -2; Jump end\nno: Push 3\nend: Tuple 2; Return",
		// 2 ahead of 3: seams are what they were ahead of the jumps that are left out.
		"f/0 0: Push 1; Jump on\non: Push 2; Tuple 2; Return ~> f/0 0: Push 1; Push 2; Tuple 2; Return",
		"f/0 1: Step 1; Push 1; Jump on\non: Step 1; Store 0; Push 2; Return ~> f/0 1: Step 1; Push 1; Step 1; Store 0; Push 2; Return",
		"f/0 0: Push 1; Push 2; Jump on\non: Operate +; Return ~> f/0 0: Push 1; Push 2; Operate +; Return",
		// 3 ahead of 4: a jump that nothing names any longer.
		"f/1 0: Dup; Is j 1 1; Dup; Is l 1 2; Fail 1 a\nj: Jump k\nl: Fail 1 l\nk: Fail 1 k ~> f/1 0: Dup; Is k 1 1; Dup; Is l 1 2; Fail 1 a\nl: Fail 1 l\nk: Fail 1 k",
	)
	polishes(t,
		// 3 is over when 4 makes two stand side by side; once more, and the jump is left out.
		"f/1 0: Dup; Is j 1 1; Jump k\nj: Jump l\nk: Return\nl: Fail 1 l ~> f/1 0: Dup; Is l 1 1; Jump k\nk: Return\nl: Fail 1 l",
		"f/1 0: Dup; Is l 1 1; Jump k\nk: Return\nl: Fail 1 l ~> f/1 0: Dup; Is l 1 1; Return\nl: Fail 1 l",
		// 2 is over when 3 makes two stand side by side.
		"f/0 0: Step 1; Push 1; Jump on\non: Step 1; Push 2; Tuple 2; Return ~> f/0 0: Step 1; Push 1; Step 1; Push 2; Tuple 2; Return",
		"f/0 0: Step 1; Push 1; Step 1; Push 2; Tuple 2; Return ~> f/0 0: Step 2; Push {1, 2}; Return",
	)
}

// P10: what Compile makes, with the answers and the steps that Eval has.
func TestModulesArePolishedP10(t *testing.T) {
	r := newChance(73)
	for forms, want := range map[string]string{
		"f(X) -> {X, 1}.":                                "f/1 1: Pick 0; Store 0; Cut 0; Step 3; Load 0; Push 1; Tuple 2; Return",
		"f() -> {1, [2]}.":                               "f/0 0: Cut 0; Step 4; Push {1, [2]}; Return",
		"f() -> 1 div 0.":                                "f/0 0: Cut 0; Step 3; Push 1; Push 0; Operate div; Return",
		"f() -> [1, 2 | [3]] ++ \"a\".":                  "f/0 0: Cut 0; Step 7; Push [1, 2, 3, 97]; Return",
		"f() -> #{b => -1 | #{a => 1 + 2}}.":             "f/0 0: Cut 0; Step 9; Push #{a => 3, b => -1}; Return",
		"f() -> {}.":                                     "f/0 0: Cut 0; Step 1; Tuple 0; Return",
		"f() -> not (1 == 1).":                           "f/0 0: Cut 0; Step 4; Push false; Return",
		"f(X) -> case 1 of 2 -> a; _ -> X end.":          "f/1 1: Pick 0; Store 0; Cut 0; Step 2; Push 1; Pick 0; Is n 1 2; Cut 0; Step 1; Push a; Jump end\nn: Pick 0; Drop; Cut 0; Step 1; Load 0\nend: Return",
		"f(X) -> [{Y, 1} || Y <- X, 1 < 2].":             "f/1 2: Pick 0; Store 0; Cut 0; Step 2; Push []; Load 0; Gen 0\nnext: Next out; Store 1; Step 3; Push true; Filter over; Step 3; Load 1; Push 1; Tuple 2; Add 0\nover: Jump next\nout: Return",
		"f(X) -> X andalso (1 + 2) andalso (a).":         "f/1 1: Pick 0; Store 0; Cut 0; Step 3; Load 0; Also one andalso; Step 3; Push 3\none: Also two andalso; Step 1; Push a\ntwo: Return",
		"f(X) -> receive X -> 1 after 2 + 3 -> {4} end.": "f/1 1: Pick 0; Store 0; Cut 0; Step 4; Push 5; Mark\nnext: Letter late; Pick 0; Same n 1 0; Cut 0; Taken; Step 1; Push 1; Jump end\nn: Cut 0; Jump next\nlate: Step 2; Push {4}\nend: Return",
	} {
		tree := meant(t, forms)
		code := compiled(t, tree)
		less := polished(t, code)
		wanted := codeOf(want)
		wanted.Fns[0].Node = code.Fns[0].Node
		if !sameCode(less, wanted) {
			t.Errorf("%s\nbecomes %s\n%s", forms, listing(less), unlike(less, wanted))
		}
		for range 5 {
			var args []impl.Term
			for range code.Fns[0].Arity {
				args = append(args, anyTerm(r.Rand, 2))
			}
			for fuel := range 30 {
				a, _ := impl.Eval(tree, "f", args, fuel)
				if b, wrong := impl.Run(less, "f", args, fuel); wrong != impl.OK || !sameAnswer(a, b) {
					t.Errorf("%s\nof %v at %d: %s, %d used; polished %s, %d used, code %d", forms, args, fuel, shown(a), a.Used, shown(b), b.Used, wrong)
				}
			}
		}
	}
}

// P10: many blocks, each one polished by itself.
func TestManyBlocksArePolishedP10(t *testing.T) {
	text, want := "", ""
	for k := range 2000 {
		n := k % 5
		text += fmt.Sprintf("f%d/0 0: %sPush %d; Push a; Tuple 2; Jump on%d; Push 1\non%d: Return; Drop\n", k, strings.Repeat("Step 1; ", n), k, k, k)
		if n > 0 {
			want += fmt.Sprintf("f%d/0 0: Step %d; Push {%d, a}; Return\n", k, n, k)
		} else {
			want += fmt.Sprintf("f%d/0 0: Push {%d, a}; Return\n", k, k)
		}
	}
	code, wanted := codeOf(text), codeOf(want)
	less, wrong := impl.Polish(code)
	if wrong != impl.OK || !sameCode(less, wanted) {
		t.Fatal(wrong, unlike(less, wanted))
	}
	for range 20 {
		if again, wrong := impl.Polish(code); wrong != impl.OK || !sameCode(again, less) {
			t.Fatal(wrong, unlike(again, less))
		}
	}
}

// Nothing is written into what comes in, nor into the spare room behind it, and an answer is new memory.
func TestPolishKeepsToItself(t *testing.T) {
	kids := []impl.Term{num(1), tuple(num(2), list(num(3))), atom("spare"), atom("room")}
	v := tuple(kids[:2]...)
	room := codeOf("f/1 1: Jump on; Push 1\non: Step 1; Push 1; Push 2; Step 1; Tuple 3; Get no 1 5; Store 0; Return\nno: Jump end; Drop\nend: Return\ng/0 0: Push 1; Push 2; Cons 1; Return\nh/0 0: Push 1; Push 2; List 2; Return; Step 1; Step 2; Step 3")
	room.Refers = []impl.CodeRef{{Node: 5, Name: "f", Arity: 1}, {Node: 7, Name: "g"}}
	for i := range room.Ins {
		if op := room.Ins[i].Op; op == impl.OpPush || op == impl.OpGet {
			room.Ins[i].V = v
		}
	}
	code := room
	code.Ins, code.Refers = room.Ins[:len(room.Ins)-2], room.Refers[:1]
	before, kidsBefore := copiedCode(room), copiedTerm(tuple(kids...))
	same2 := func() bool { return sameCode(room, before) && same(tuple(kids...), kidsBefore) }
	if wrong, at := impl.Verify(code); wrong != impl.OK {
		t.Fatal(wrong, at)
	}
	less, wrong := impl.Polish(code)
	reached, wrongToo := impl.Reach(code)
	if wrong != impl.OK || wrongToo != impl.OK || !same2() {
		t.Fatal(wrong, wrongToo, listing(room))
	}
	// Each list of the answer is written over; no other one changes, nor what came in.
	for i := range less.Ins {
		rest := copiedCode(impl.Code{Ins: less.Ins[i+1:]})
		spoilAll(&less.Ins[i].V)
		if !sameCode(impl.Code{Ins: less.Ins[i+1:]}, rest) || !same2() {
			t.Error("what is pushed is shared", i)
		}
	}
	for i := range less.Ins {
		less.Ins[i] = impl.Ins{Op: 99}
	}
	clear(less.Fns)
	clear(less.Refers)
	clear(reached)
	less.Ins, less.Fns, less.Refers = append(less.Ins, impl.Ins{Op: 98}), append(less.Fns, impl.CodeFn{}), append(less.Refers, impl.CodeRef{})
	if !same2() {
		t.Error("an answer shares what came in", listing(room))
	}
	again, _ := impl.Polish(code)
	if more, _ := impl.Reach(code); len(more) != len(code.Ins) || !more[0] || len(again.Ins) != len(less.Ins)-1 || again.Ins[0].Op == 99 {
		t.Error("an answer is kept")
	}
}

// spoilAll writes into all lists of a term, and the room behind them.
func spoilAll(x *impl.Term) {
	for i := range x.Kids {
		spoilAll(&x.Kids[i])
		x.Kids[i] = atom("spoilt")
	}
	if len(x.Kids) > 0 {
		_ = append(x.Kids, atom("behind"))
	}
}
