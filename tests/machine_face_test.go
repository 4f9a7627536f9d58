package tests

import (
	"fmt"
	"slices"
	"strings"
	"testing"

	"loop.example/g00019/impl"
)

// runRefused asks for a code of Run and Calls, and for nothing beside it.
func runRefused(t *testing.T, what string, want int, code impl.Code, name string, args []impl.Term, fuel int) {
	t.Helper()
	if a, wrong := impl.Run(code, name, args, fuel); wrong != want || !sameAnswer(a, impl.Answer{}) {
		t.Errorf("Run %s: %s, %d used, code %d, not %d", what, shown(a), a.Used, wrong, want)
	}
	if begun, wrong := impl.Calls(code, name, args, fuel); wrong != want || len(begun) != 0 {
		t.Errorf("Calls %s: %v, code %d, not %d", what, begun, wrong, want)
	}
}

// P7: the codes ErrBad and ErrUndef, at their limits, and which of them comes first.
func TestWhatRunRefusesP7(t *testing.T) {
	one := codeOf("f/0 0: Push 1; Return\ng/1 0: Return\nfun/0 0: Push 1; Return\nfun/1 0: Return")
	for _, fuel := range []int{-1, -2, -1 << 63, impl.MaxFuel + 1, 1<<63 - 1} {
		runRefused(t, "with a fuel that is none", impl.ErrBad, one, "f", nil, fuel)
		runRefused(t, "with a fuel that is none of nobody", impl.ErrBad, one, "h", nil, fuel)
	}
	for fuel, want := range map[int]impl.Answer{0: {Class: impl.AnFuel}, 1: {V: num(1), Used: 1}, 2: {V: num(1), Used: 1}, impl.MaxFuel: {V: num(1), Used: 1}} {
		if a, wrong := impl.Run(one, "f", nil, fuel); wrong != impl.OK || !sameAnswer(a, want) {
			t.Error(fuel, shown(a), a.Used, wrong)
		}
	}
	for _, x := range []struct {
		name string
		n    int
	}{{"f", 1}, {"f", 20}, {"g", 0}, {"g", 2}, {"h", 0}, {"h", 20}, {"", 0}, {"", 1}, {"F", 0}, {"m", 0}, {"m:f", 0}, {"f/0", 0}, {"hd", 1}, {"self", 0}, {"f\x00", 0}, {"fun", 0}} {
		runRefused(t, x.name, impl.ErrUndef, one, x.name, slicesOf(x.n, num(1)), 10)
	}
	runRefused(t, "no code", impl.ErrBad, impl.Code{}, "f", nil, 10)
	runRefused(t, "code without blocks", impl.ErrUndef, impl.Code{Name: "m"}, "f", nil, 10)
	for n, want := range map[int]int{0: impl.OK, 1: impl.OK, 19: impl.OK, 20: impl.OK, 21: impl.ErrBad, 22: impl.ErrBad} {
		code := codeOf(fmt.Sprintf("f/%d 0: Cut 0; Push yes; Return", n))
		if want != impl.OK {
			runRefused(t, "with too many", want, code, "f", slicesOf(n, num(1)), 10)
			runRefused(t, "with too many of nobody", want, code, "g", slicesOf(n, num(1)), 10)
			continue
		}
		runsCode(t, code, "yes", 1, slicesOf(n, num(1))...)
	}
	for name, x := range wrongTerms() {
		runRefused(t, name, impl.ErrBad, one, "g", []impl.Term{x}, 10)
		runRefused(t, name, impl.ErrBad, one, "h", []impl.Term{num(1), x}, 10)
	}
	for _, x := range append(anyTerms(200), many(num(1), 1999), nest(num(1), 99), bin(strings.Repeat("\xff", 4000))) {
		if a, wrong := impl.Run(one, "g", []impl.Term{x}, 1); wrong != impl.OK || !sameAnswer(a, impl.Answer{V: x, Used: 1}) {
			t.Error(x, shown(a), wrong)
		}
	}
	// What a block calls may have more arguments than who begins a run.
	runs(t, "f/0 0: "+strings.Repeat("Push 1; ", 500)+"Call 1; Return\ng/500 0: Push 2; Tuple 501; Builtin 1 tuple_size; Return", "501", 3)
}

// P8: code that is not sound is not run, whatever its fault.
func TestUnsoundCodeIsNotRunP8(t *testing.T) {
	for _, text := range []string{"f/0 0: Return", "f/0 0: Push 1", "f/0 0: Drop; Push 1; Return", "f/0 0: Push 1; Push 2; Return", "f/0 0: Load 0; Return", "f/0 0: Push 1; Return; Load 0", "f/0 0: Push 1; Return\ng/0 0: Load 0", "f/0 0: Call 1; Return", "f/0 0: Fail 0 of", "f/0 0: Step 0; Push 1; Return", "f/0 0: Step 100001; Push 1; Return", "f/0 0: Push 1; Jump on; Jump on\non: Push 1; Return"} {
		runRefused(t, text, impl.ErrBad, codeOf(text), "f", nil, 10)
		runRefused(t, text, impl.ErrBad, codeOf(text), "h", nil, 10)
	}
	for _, change := range []func(c *impl.Code){
		func(c *impl.Code) { c.Name = "" }, func(c *impl.Code) { c.Name = "of" }, func(c *impl.Code) { c.Fns[0].Arity = -1 }, func(c *impl.Code) { c.Fns[0].At = 1 }, func(c *impl.Code) { c.Fns[0].Held = 1 }, func(c *impl.Code) { c.Ins[1].Op = 54 }, func(c *impl.Code) { c.Ins[1].Op = 0 }, func(c *impl.Code) { c.Ins[1].A = 1 }, func(c *impl.Code) { c.Ins[0].V = impl.Term{} }, func(c *impl.Code) { c.Ins[0].V = atom("A") }, func(c *impl.Code) { c.Ins[0].S = "a" }, func(c *impl.Code) { c.Ins = nil }, func(c *impl.Code) { c.Fns = nil }, func(c *impl.Code) { c.Refers = []impl.CodeRef{{Node: 0, Name: "f"}} },
	} {
		code := codeOf("f/0 0: Push 1; Return")
		change(&code)
		runRefused(t, "changed", impl.ErrBad, code, "f", nil, 10)
	}
}

// Nothing is written into what comes in, nor into the spare room behind it, and an answer is new memory.
func TestRunLeavesItsArguments(t *testing.T) {
	code := codeOf("f/2 0: Push {[9], k}; Pick 0; Push 5; Add 0; Pick 1; Pick 0; Tuple 6; Return")
	code.Ins = append(make([]impl.Ins, 0, 20), code.Ins...)
	code.Fns = append(make([]impl.CodeFn, 0, 5), code.Fns...)
	code.Ins[0].V.Kids = append(make([]impl.Term, 0, 5), code.Ins[0].V.Kids...)
	before := copiedCode(code)
	room := append(make([]impl.Term, 0, 8), num(1), list(num(2)))
	args := append(make([]impl.Term, 0, 4), impl.Term{Kind: impl.TmList, Kids: room}, dict(atom("a"), tuple(num(3))))
	want := "{[1, [2], 5], #{a => {3}}, {[9], k}, [1, [2]], #{a => {3}}, [1, [2], 5]}"
	for range 3 {
		a, wrong := impl.Run(code, "f", args, 10)
		if wrong != impl.OK || shown(a) != want {
			t.Fatal(shown(a), wrong)
		}
		for i := range a.V.Kids { // each part is memory of its own
			rest := copiedTerm(tuple(a.V.Kids[i+1:]...))
			spoil(&a.V.Kids[i])
			if !same(rest, tuple(a.V.Kids[i+1:]...)) {
				t.Error("parts of an answer share what they have", i)
			}
		}
	}
	spare := slices.Concat(room[2:8], args[2:4], code.Ins[0].V.Kids[2:5])
	if !sameCode(code, before) || !same(tuple(args...), term("{[1, [2]], #{a => {3}}}")) || slices.ContainsFunc(spare, func(t impl.Term) bool { return !zero(t) }) {
		t.Error("an argument was written to")
	}
	for _, n := range code.Ins[8:20] {
		if !sameIns(n, impl.Ins{}) {
			t.Error("the room behind the instructions was written to", n)
		}
	}
	begun, _ := impl.Calls(code, "f", args, 10)
	begun[0] = impl.Call{}
	if again, wrong := impl.Calls(code, "f", args, 10); wrong != impl.OK || !slices.Equal(again, []impl.Call{{Name: "f", Depth: 1}}) {
		t.Error(again, wrong)
	}
}
