package tests

import (
	"fmt"
	"slices"
	"strings"
	"testing"

	"loop.example/g00019/impl"
)

// P10: each instruction that is reached, and those that are not.
func TestReachP10(t *testing.T) {
	reaches(t,
		"f/1 0: Return ~> #",
		// Behind what never goes on at the next one.
		"f/0 0: Jump on; Push 1; on: Push 2; Return ~> #.##",
		"f/0 0: Jump on; Push 1; Drop; Push 1; on: Push 2; Return ~> #...##",
		"f/1 0: Return; Push 1; Return ~> #..",
		"f/0 0: Fail 0 oops; Push 1 ~> #.",
		"f/1 0: Fail 1 oops; Fail 0 oops ~> #.",
		"f/0 0: Push 1; Push throw; Raise; Drop ~> ###.",
		"f/0 0: Push 1; Push throw; Resume; Return ~> ####",
		// What goes elsewhere goes there and on, a jump there alone.
		"f/1 0: Is no 0 1; Fail 0 is\nno: Fail 0 isnt; Push 1 ~> ###.",
		"f/1 0: Dup; Is no 1 1; Return\nno: Return ~> ####",
		"f/1 0: Also on orelse; Push 1\non: Return; Return ~> ###.",
		"f/1 0: Filter on; Jump on; Push 2\non: Push 1; Return ~> ##.##",
		"f/0 0: Letter late; Return; Jump late\nlate: Push 1; Return ~> ##.##",
		"f/1 0: Push 0\nnext: Next out; Drop; Jump next; Push 1\nout: Push 1; Return ~> ####.##",
		"f/1 0: Push 0\nnext: Next out; Fail 0 oops; Jump next\nout: Push 1; Return ~> ###.##",
		"f/1 0: Push 0\nnext: More out; Cut 2; Jump next\nout: Push 1; Return ~> ######",
		"f/1 0: Push 0\nnext: Next a; Jump b; Jump next\na: Push 1; Return; Jump c\nb: Cut 2; Jump next\nc: Return ~> ###.##.##.",
		// A handler that nothing else leads to.
		"f/0 0: Try on; Fail 0 oops\non: Tuple 2; Return ~> ####",
		"f/1 0: Guard on; Push 1; Fail 1 oops; Ended\non: Return ~> ###.#",
		"f/1 0: Try on; Ended; Return; Step 1\non: Fail 1 oops; Return ~> ###.#.",
		"f/1 0: Return; Try on; Fail 0 oops\non: Tuple 2; Return ~> #....",
		"f/0 0: Try one; Try two; Fail 0 oops\ntwo: Fail 0 two; Jump one\none: Fail 0 one ~> ####.#",
		// What nothing but itself leads to.
		"f/0 0: Push 1; Return\nself: Jump self ~> ##.",
		"f/0 0: Jump on\nback: Letter late; Drop; Jump back\nlate: Fail 0 late\non: Push 1; Return ~> #....##",
		"f/0 0: Jump on\na: Jump b\nb: Jump a\non: Push 1; Return ~> #..##",
		"f/0 0: Fail 0 oops\nback: Step 1; Jump back ~> #..",
		// What leads to it is not reached, or it leads to what is.
		"f/0 0: Jump on; Jump to\non: Push 1; Return\nto: Push 2; Return ~> #.##..",
		"f/0 0: Push 1; Jump on; Jump on\non: Return ~> ##.#",
		"f/0 0: Push 1\non: Return; Jump on ~> ##.",
		// Each block's first one, whoever calls it.
		"f/0 0: Push 1; Return\ng/0 0: Push 1; Return\nfun/1 0: Return ~> #####",
		"f/0 0: Fail 0 oops; Return\ng/1 0: Return; Step 1\nh/0 0: Call 2; Return; Return\nfun/2 2 1: Fail 1 oops; Drop ~> #.#.##.#.",
		"f/0 0: Push 1; Return\ng/0 0: Call 1; Return\nfun/0 1 1: Load 0; Return ~> ######",
	)
	for _, code := range []impl.Code{{Name: "m"}, {Name: "m", Refers: []impl.CodeRef{{Node: 3, Name: "f"}}}} {
		if reached, wrong := impl.Reach(code); wrong != impl.OK || len(reached) != 0 {
			t.Error(reached, wrong)
		}
		if less, wrong := impl.Polish(code); wrong != impl.OK || !sameCode(less, code) {
			t.Error(listing(less), wrong)
		}
	}
}

// P10: each operation with which A names a place goes there, each one that goes on goes on; of all operations four do not.
func TestReachOfEachOperationP10(t *testing.T) {
	ends := []string{"Jump", "Return", "Fail", "Raise"}
	r := &stacker{&speaker{chance: newChance(66)}, rules{code: callable("Return")}}
	seen := map[string]int{}
	for i := range 6000 {
		row := opRows[1+i%53]
		if slices.Contains(elsewhere, row.name) {
			continue
		}
		code := r.stacked(row)
		if wrong, _ := impl.Verify(code); wrong != impl.OK {
			continue
		}
		polished(t, code)
		at := slices.IndexFunc(code.Ins, func(n impl.Ins) bool { return n.Op == row.number })
		reached, _ := impl.Reach(code)
		if reached[at+1] == slices.Contains(ends, row.name) || isPlace(code.Ins[at]) && !reached[code.Ins[at].A] {
			t.Errorf("%s: %v\n%s", row.name, reached, listing(code))
		}
		seen[row.name]++
	}
	for _, row := range opRows[1:] {
		if seen[row.name] < 5 && !slices.Contains(elsewhere, row.name) {
			t.Error("too few", row.name, seen[row.name])
		}
	}
}

// P10: what is not sound is neither looked at nor polished.
func TestOnlySoundCodeIsPolishedP10(t *testing.T) {
	for _, text := range []string{
		"f/0 0: Return", "f/0 0: Push 1", "f/0 0: Drop; Push 1; Return", "f/0 0: Push 1; Push 2; Return", "f/0 0: Load 0; Return", "f/0 0: Push 1; Return; Load 0", "f/0 0: Push 1; Return\ng/0 0: Load 0", "f/0 0: Call 1; Return", "f/0 0: Fail 0 of", "f/0 0: Step 0; Push 1; Return", "f/0 0: Step 100001; Push 1; Return", "f/0 0: Push 1; Jump on; Jump on\non: Push 1; Return",
		"f/0 0: Push 1; Return\nself: Pick 10000; Jump self", "f/0 0: Push 1; Return; Step 100001", "f/0 0: Push 1; Return; Try 2", "f/0 0: Jump 0", "f/0 0: Push 1; Return; Jump 3", "f/0 0: Push 1; Return\ng/0 0: Push 1; Return; Jump 0", "f/0 0: Step 1\nself: Jump self",
	} {
		if wrong, _ := impl.Verify(codeOf(text)); wrong != impl.ErrCode {
			t.Error(text, wrong)
		}
		refusesToPolish(t, text, codeOf(text))
	}
	for i, change := range []func(c *impl.Code){
		func(c *impl.Code) { c.Name = "" }, func(c *impl.Code) { c.Name = "of" }, func(c *impl.Code) { c.Fns[0].Arity = -1 }, func(c *impl.Code) { c.Fns[0].At = 1 }, func(c *impl.Code) { c.Fns[1].At = 0 }, func(c *impl.Code) { c.Fns[1].At = 4 }, func(c *impl.Code) { c.Fns[1].At = -1 }, func(c *impl.Code) { c.Fns[0].Held = 1 }, func(c *impl.Code) { c.Fns[1].Node = 0 }, func(c *impl.Code) { c.Ins[1].Op = 54 }, func(c *impl.Code) { c.Ins[1].Op = 0 }, func(c *impl.Code) { c.Ins[1].A = 1 }, func(c *impl.Code) { c.Ins[0].V = impl.Term{} }, func(c *impl.Code) { c.Ins[0].V = atom("A") }, func(c *impl.Code) { c.Ins[0].S = "a" }, func(c *impl.Code) { c.Ins = nil }, func(c *impl.Code) { c.Fns = nil }, func(c *impl.Code) { c.Refers = []impl.CodeRef{{Node: 0, Name: "f"}} },
	} {
		code := codeOf("f/0 0: Push 1; Return\ng/0 0: Push 2; Return")
		change(&code)
		refusesToPolish(t, fmt.Sprint("change ", i), code)
	}
	for name, x := range wrongTerms() {
		refusesToPolish(t, name, impl.Code{Name: "m", Fns: []impl.CodeFn{{Name: "f"}}, Ins: []impl.Ins{{Op: impl.OpPush, V: x}, {Op: impl.OpReturn}}})
	}
	refusesToPolish(t, "no code", impl.Code{})
	// One instruction more than there may be.
	long := codeOf("f/1 0: " + strings.Repeat("Step 1; ", impl.MaxIns) + "Return")
	refusesToPolish(t, "too many", long)
	long.Ins = long.Ins[1:]
	less, wrong := impl.Polish(long)
	if want := codeOf("f/1 0: Step 19999; Return"); wrong != impl.OK || !sameCode(less, want) {
		t.Error(wrong, listing(less))
	}
}
