package tests

import (
	"slices"
	"strconv"
	"strings"
	"testing"

	"loop.example/g00019/impl"
)

// callable is code with functions of all sorts: f/1 with instructions of its own,
// g/1 that is exported, h/2 and hd/1 that are not, a fun of one argument that holds
// two values, one of none that holds none, and one that stores into what it holds;
// with what is referred to.
func callable(body string) impl.Code {
	code := codeOf("f/1 1: " + body + `
g/1 0: Push g; Tuple 2; Return
h/2 0: Push h; Tuple 3; Return
hd/1 0: Push own; Tuple 2; Return
tl/1 0: Push own; Tuple 2; Return
fun/1 3 2: Load 0; Load 1; Load 2; Tuple 4; Return
fun/0 0: Push nothing; Return
fun/0 2 2: Load 0; Load 1; Tuple 2; Push 5; Store 0; Push 6; Store 1; Return`)
	code.Fns[1].Export, code.Fns[4].Export = true, true
	for k := range code.Fns { // not their numbers
		code.Fns[k].Node = 10 * (k + 1)
	}
	code.Refers = []impl.CodeRef{{Node: 3, Name: "g", Arity: 1}, {Node: 5, Name: "length", Arity: 1}, {Node: 7, Name: "h", Arity: 2}, {Node: 9, Name: "hd", Arity: 1}, {Node: 11, Name: "nowhere", Arity: 1}, {Node: 13, Name: "g", Arity: 3}, {Node: 15, Name: "self", Arity: 0}, {Node: 17, Name: "element", Arity: 2}, {Node: 19, Name: "throw", Arity: 1}}
	return code
}

// calls asks what f of such code answers of a.
func calls(t *testing.T, body string, want string, steps int) {
	t.Helper()
	runsCode(t, callable(body), want, 1+steps, atom("a"))
}

// P8: functions are called by their blocks' numbers and by name.
func TestFunctionsAreCalledP8(t *testing.T) {
	for _, x := range []struct {
		body, want string
		steps      int
	}{
		{"Call 1; Return", "{a, g}", 1}, {"Push b; Call 2; Return", "{a, b, h}", 1}, {"Push b; Push c; Call 2; Tuple 2; Return", "{a, {b, c, h}}", 1}, {"Call 1; Call 1; Return", "{{a, g}, g}", 2}, {"Call 3; Return", "{a, own}", 1},
		// 4.3's, whatever the module's own are.
		{"List 1; Builtin 1 hd; Return", "a", 1}, {"Builtin 1 hd; Return", "error badarg", 1}, {"Builtin 1 throw; Return", "throw a", 1}, {"Builtin 1 exit; Return", "exit a", 1}, {"Builtin 1 error; Return", "error a", 1}, {"Push 1; Push {b}; Builtin 2 element; Tuple 2; Return", "{a, b}", 1}, {"Push b; Push #{}; Builtin 2 map_get; Tuple 2; Return", "error {badkey, b}", 1}, {"Push 1; Push {b}; Push c; Builtin 3 setelement; Tuple 2; Return", "{a, {c}}", 1}, {"Builtin 1 is_atom; Return", "true", 1}, {"Builtin 0 self; Fail 0 no", "error not_pure", 1}, {"Builtin 1 spawn; Return", "error not_pure", 1}, {"Push b; Builtin 2 exit; Return", "error not_pure", 1},
		// What the module exports, then 4.3's; of other modules nothing.
		{"Remote 1 m:g; Return", "{a, g}", 1}, {"Remote 1 m:tl; Return", "{a, own}", 1}, {"List 1; Remote 1 m:hd; Return", "a", 1}, {"Remote 1 m:hd; Return", "error badarg", 1}, {"Push b; Remote 2 m:h; Return", "error undef", 0}, {"Push b; Remote 2 m:g; Return", "error undef", 0}, {"Remote 0 m:g; Fail 0 no", "error undef", 0}, {"Remote 1 m:f; Return", "error undef", 0}, {"Remote 1 m:nowhere; Return", "error undef", 0}, {"Remote 1 n:g; Return", "error undef", 0}, {"Remote 1 n:length; Return", "error undef", 0}, {"Remote 1 n:hd; Return", "error undef", 0}, {"Remote 1 g:m; Return", "error undef", 0}, {"Remote 1 mm:g; Return", "error undef", 0},
		{"Push [b]; Remote 1 m:length; Tuple 2; Return", "{a, 1}", 1}, {"Remote 1 m:length; Return", "error badarg", 1}, {"Remote 0 m:self; Fail 0 no", "error not_pure", 1}, {"Remote 1 m:throw; Return", "throw a", 1}, {"Push 1; Push {b}; Remote 2 m:element; Tuple 2; Return", "{a, b}", 1},
		{"Try on; Push b; Remote 1 m:nowhere; Fail 1 no\non: Tuple 3; Return", "{a, undef, error}", 0},
	} {
		calls(t, x.body, x.want, x.steps)
	}
	// An argument's place is its order, the last one on top.
	runs(t, "f/0 0: Push 1; Push 2; Push 3; Call 1; Return\ng/3 0: Push 4; Tuple 4; Return", "{1, 2, 3, 4}", 2)
	// The module's name is its code's.
	code := callable("Remote 1 n:g; Return")
	code.Name = "n"
	runsCode(t, code, "{a, g}", 2, atom("a"))
}

// P8: what is called that is a value, and what cannot be.
func TestValuesAreCalledP8(t *testing.T) {
	for _, x := range []struct {
		called, want string
		steps        int
	}{
		{"#f3{}", "{a, g}", 1}, {"#f5{}", "error badarg", 1}, {"#f7{}", "error {badarity, #f7{}}", 0}, {"#f9{}", "{a, own}", 1}, {"#f11{}", "error undef", 0}, {"#f13{}", "error {badarity, #f13{}}", 0}, {"#f15{}", "error {badarity, #f15{}}", 0}, {"#f17{}", "error {badarity, #f17{}}", 0}, {"#f19{}", "throw a", 1},
		{"#f60{1, {2}}", "{a, 1, {2}, 0}", 1}, {"#f60{}", "error {badfun, #f60{}}", 0}, {"#f60{1}", "error {badfun, #f60{1}}", 0}, {"#f60{1, 2, 3}", "error {badfun, #f60{1, 2, 3}}", 0}, {"#f70{}", "error {badarity, #f70{}}", 0}, {"#f70{1}", "error {badfun, #f70{1}}", 0},
		{"#f3{1}", "error {badfun, #f3{1}}", 0}, {"#f7{1}", "error {badfun, #f7{1}}", 0}, {"#f11{1}", "error {badfun, #f11{1}}", 0}, {"#f10{}", "error {badfun, #f10{}}", 0}, {"#f20{}", "error {badfun, #f20{}}", 0}, {"#f0{}", "error {badfun, #f0{}}", 0}, {"#f1{}", "error {badfun, #f1{}}", 0}, {"#f1999{}", "error {badfun, #f1999{}}", 0}, {"#f2000{}", "error {badfun, #f2000{}}", 0}, {"#f1000000000000000{}", "error {badfun, #f1000000000000000{}}", 0},
		{"3", "error {badfun, 3}", 0}, {"#r3", "error {badfun, #r3}", 0}, {"#p3", "error {badfun, #p3}", 0}, {"g", "error {badfun, g}", 0}, {"{m, g}", "error {badfun, {m, g}}", 0}, {"[]", "error {badfun, []}", 0}, {"0", "error {badfun, 0}", 0}, {"<<3>>", "error {badfun, <<3>>}", 0}, {"#{}", "error {badfun, #{}}", 0},
	} {
		calls(t, "Push "+x.called+"; Pick 0; Apply 1; Store 0; Drop; Load 0; Return", x.want, x.steps)
	}
	for _, x := range []struct {
		body, want string
		steps      int
	}{
		{"Push #f70{}; Apply 0; Tuple 2; Return", "{a, nothing}", 1}, {"Push #f60{1, 2}; Apply 0; Tuple 2; Return", "error {badarity, #f60{1, 2}}", 0}, {"Push #f60{1, 2}; Push b; Push c; Apply 2; Tuple 2; Return", "error {badarity, #f60{1, 2}}", 0}, {"Push #f3{}; Apply 0; Tuple 2; Return", "error {badarity, #f3{}}", 0}, {"Push #f11{}; Apply 0; Tuple 2; Return", "error {badarity, #f11{}}", 0},
		{"Push #f7{}; Push b; Push c; Apply 2; Tuple 2; Return", "{a, {b, c, h}}", 1}, {"Push #f13{}; Push b; Push c; Push d; Apply 3; Tuple 2; Return", "error undef", 0}, {"Push #f15{}; Apply 0; Tuple 2; Return", "error not_pure", 1}, {"Push #f17{}; Push 2; Push {b, c}; Apply 2; Tuple 2; Return", "{a, c}", 1}, {"Push #f5{}; Push [b]; Apply 1; Tuple 2; Return", "{a, 1}", 1},
		{"Apply 0; Return", "error {badfun, a}", 0}, {"Push b; Apply 1; Return", "error {badfun, a}", 0}, {"Push b; Push c; Push d; Apply 2; Tuple 2; Return", "error {badfun, b}", 0}, {"Try on; Push b; Push c; Apply 1; Fail 1 no\non: Tuple 3; Return", "{a, {badfun, b}, error}", 0},
		// What a Fun holds lay on the stack, the last one on top.
		{"Push b; Push c; Fun 5; Tuple 2; Return", "{a, #f60{b, c}}", 0}, {"Fun 6; Tuple 2; Return", "{a, #f70{}}", 0}, {"Push b; Push c; Fun 5; Push d; Apply 1; Tuple 2; Return", "{a, {d, b, c, 0}}", 1}, {"Push b; Fun 5; Push c; Apply 1; Return", "{c, a, b, 0}", 1},
		// What one call stores is not there in the next.
		{"Push b; Fun 7; Store 0; Load 0; Apply 0; Load 0; Apply 0; Tuple 2; Return", "{{a, b}, {a, b}}", 2},
	} {
		calls(t, x.body, x.want, x.steps)
	}
}

// P8: what is no Fun is none of the block with the Node 0 either, nor is a Fun whose N is more than a Node may be; so says Eval.
func TestFunsOfNoNodeP8(t *testing.T) {
	for called, want := range map[string]string{"3": "error {badfun, 3}", "0": "error {badfun, 0}", "#r0": "error {badfun, #r0}", "[]": "error {badfun, []}", "#f0{}": "zero", "#f2000{}": "error {badfun, #f2000{}}", "#f4000{}": "error {badfun, #f4000{}}", "#f2005{}": "error {badfun, #f2005{}}", "#f5{}": "error {badarity, #f5{}}", "#f1000000000000000{}": "error {badfun, #f1000000000000000{}}"} {
		code := withRefers(codeOf("f/0 0: Push "+called+"; Apply 0; Return\nfun/0 0 0: Push zero; Return"), "5 f/1")
		code.Fns[0].Node, code.Fns[1].Node = 1, 0
		steps := 1
		if want == "zero" {
			steps = 2
		}
		runsCode(t, code, want, steps)
	}
	tree := parsed(t, "module m. f(F) -> F(). g() -> fun() -> {fun g/0} end.")
	for _, kind := range []int{impl.NdFun, impl.NdRefer} {
		for _, more := range []int{0, 2000, 4000, 1000000000000000 - 2000} {
			f := []impl.Term{fun(placeOf(t, tree, kind, 0) + more)}
			a, _ := impl.Eval(tree, "f", f, 50)
			if b := ranAt(t, compiled(t, tree), f, 50); !sameAnswer(a, b) || (a.Class == impl.AnValue) != (more == 0) {
				t.Error(kind, more, shown(a), shown(b))
			}
		}
	}
}

// depths is the blocks that f of such code begins, as "name depth" each, funs by their Nodes.
func depths(t *testing.T, text string, want string, fuel int, args ...impl.Term) {
	t.Helper()
	code := codeOf(text)
	for k := range code.Fns {
		code.Fns[k].Node = 10 * (k + 1)
	}
	ranAt(t, code, args, fuel)
	var row []string
	begun, wrong := impl.Calls(code, "f", args, fuel)
	for _, c := range begun {
		k := slices.IndexFunc(code.Fns, func(f impl.CodeFn) bool { return f.Node == c.Node })
		if wrong != impl.OK || k < 0 || code.Fns[k].Name != c.Name {
			t.Fatal(c, wrong)
		}
		name := c.Name
		if name == "" {
			name = "fun" + strconv.Itoa(c.Node)
		}
		row = append(row, name+strconv.Itoa(c.Depth))
	}
	if got := strings.Join(row, " "); got != want {
		t.Errorf("%s\nat a fuel of %d begins %s, not %s", text, fuel, got, want)
	}
}

// P8: the blocks that are begun, in order.
func TestBlocksAreBegunP8(t *testing.T) {
	one := "f/0 0: Push 1; Return"
	depths(t, one, "f1", 1)
	depths(t, one, "", 0)
	two := "f/0 0: Step 2; Call 1; Step 2; Call 1; Call 2; Step 1; Call 1; Tuple 4; Return\ng/0 0: Push 1; Return\nh/0 0: Step 1; Call 1; Return"
	depths(t, two, "f1 g2 g2 h2 g3 g2", 20)
	// The steps: f, 2, g, 2, g, h, 1, g, 1, g.
	for fuel, want := range []string{"", "f1", "f1", "f1", "f1 g2", "f1 g2", "f1 g2", "f1 g2 g2", "f1 g2 g2 h2", "f1 g2 g2 h2", "f1 g2 g2 h2 g3", "f1 g2 g2 h2 g3", "f1 g2 g2 h2 g3 g2", "f1 g2 g2 h2 g3 g2"} {
		depths(t, two, want, fuel)
	}
	// Frames that ended, by whatever, do not count; nor do 4.3's functions.
	depths(t, "f/0 0: Try on; Call 1; Fail 0 no\non: Drop; Drop; Call 2; Return\ng/0 0: Call 2; Drop; Call 3; Return\nh/0 0: Push []; Builtin 1 length; Return\nk/0 0: Guard up; Call 4; Ended; Return\nup: Call 2; Drop; Fail 0 oops\nl/0 0: Fail 0 oops", "f1 g2 h3 k3 l4 h4 h2", 50)
	depths(t, "f/0 0: Fun 2; Apply 0; Fun 2; Drop; Return\ng/0 0: Push 1; Return\nfun/0 0: Call 1; Return", "f1 fun302 g3", 50)
	// What is called and is not there, or with too few arguments, begins nothing.
	depths(t, "f/0 0: Push #f20{}; Apply 0; Return\ng/0 0: Push 1; Return", "f1", 50)
	depths(t, "f/0 0: Push #f20{}; Push 1; Apply 1; Return\nfun/0 0: Push 1; Return", "f1", 50)
}

// P8: the first 200 of them, and no more.
func TestManyBlocksAreBegunP8(t *testing.T) {
	down := codeOf("f/1 0: Dup; Is no 1 0; Return\nno: Push 1; Operate -; Call 0; Return")
	each := codeOf("f/1 0: Push 0\nnext: Next out; Drop; Call 1; Drop; Jump next\nout: Push done; Return\ng/0 0: Push 1; Return")
	for _, n := range []int{0, 1, 197, 198, 199, 200, 201, 500} {
		begun, wrong := impl.Calls(down, "f", []impl.Term{num(n)}, 1000)
		if wrong != impl.OK || len(begun) != min(200, n+1) {
			t.Fatal(n, len(begun), wrong)
		}
		for i, c := range begun {
			if c != (impl.Call{Name: "f", Node: 0, Depth: i + 1}) {
				t.Error(i, c)
			}
		}
		ranAt(t, down, []impl.Term{num(n)}, 1000)
		begun, wrong = impl.Calls(each, "f", []impl.Term{many(num(1), n)}, 2000)
		if wrong != impl.OK || len(begun) != min(200, n+1) {
			t.Fatal(n, len(begun), wrong)
		}
		for i, c := range begun[1:] {
			if c != (impl.Call{Name: "g", Node: 1, Depth: 2}) {
				t.Error(i, c)
			}
		}
		ranAt(t, each, []impl.Term{many(num(1), n)}, 2000)
	}
	// However long the run.
	endless := codeOf("f/0 0: Call 0; Return")
	for fuel, want := range map[int]int{199: 199, 200: 200, 201: 200, impl.MaxFuel: 200} {
		if begun, wrong := impl.Calls(endless, "f", nil, fuel); wrong != impl.OK || len(begun) != want || begun[want-1].Depth != want {
			t.Error(fuel, len(begun), wrong)
		}
	}
}
