package tests

import (
	"slices"
	"strings"
	"testing"

	"loop.example/g00019/impl"
)

// meant is the tree of the forms of a module m, in which Lint finds nothing.
func meant(t *testing.T, forms string) []impl.Node {
	t.Helper()
	tree := parsed(t, "module m. "+forms)
	if code, at := impl.Lint(tree); code != impl.OK || at != 0 {
		t.Fatalf("Lint of %s: code %d at %d", forms, code, at)
	}
	return tree
}

// term is the term that a text shows.
func term(s string) impl.Term {
	v, code, at := impl.TermRead(s)
	if code != impl.OK {
		panic(s + " is no term at byte " + s[at:])
	}
	return v
}

// shown is an answer as the tables of these tests have it: a term, ahead of it the class when that is none of a value.
func shown(a impl.Answer) string {
	v, _ := impl.TermShow(a.V)
	return strings.TrimSpace([]string{"", "error ", "throw ", "exit ", "out of fuel "}[a.Class] + v)
}

// evaluated is what f of a tree answers with all the fuel that there may be.
func evaluated(t *testing.T, tree []impl.Node, args ...impl.Term) impl.Answer {
	t.Helper()
	a, code := impl.Eval(tree, "f", args, impl.MaxFuel)
	if code != impl.OK {
		t.Fatalf("Eval: code %d", code)
	}
	return a
}

// heldAtFuels asks for one answer of f at every fuel: below what it used the fuel is out. (Of many fuels it tries the first and the last ones.)
// What Compile makes of the tree has to answer the same, run (P7).
func heldAtFuels(t *testing.T, what string, tree []impl.Node, whole impl.Answer, args ...impl.Term) {
	t.Helper()
	c := compiled(t, tree)
	for fuel := range whole.Used + 2 {
		if fuel > 70 && fuel < whole.Used-3 {
			continue
		}
		want := whole
		if fuel < whole.Used {
			want = impl.Answer{Class: impl.AnFuel, Used: fuel}
		}
		if a, code := impl.Eval(tree, "f", args, fuel); code != impl.OK || !sameAnswer(a, want) {
			t.Errorf("%s\nat a fuel of %d answers %s, %d used, code %d; not %s, %d used", what, fuel, shown(a), a.Used, code, shown(want), want.Used)
			return
		}
		if a, code := impl.Run(c, "f", args, fuel); code != impl.OK || !sameAnswer(a, want) {
			t.Errorf("%s\nrun at a fuel of %d answers %s, %d used, code %d; not %s, %d used", what, fuel, shown(a), a.Used, code, shown(want), want.Used)
			return
		}
	}
}

// answers asks what f of the forms of a module answers: as the table says, as the second reading says, and at every fuel.
func answers(t *testing.T, forms string, want string, args ...impl.Term) {
	t.Helper()
	tree := meant(t, forms)
	a := evaluated(t, tree, args...)
	if s := shown(a); s != want {
		t.Errorf("%s\nanswers %s, not %s", forms, s, want)
	}
	if b := evalByWords(tree, "f", args, impl.MaxFuel); !sameAnswer(a, b) {
		t.Errorf("%s\nanswers %s, %d used; by the words %s, %d used", forms, shown(a), a.Used, shown(b), b.Used)
	}
	heldAtFuels(t, forms, tree, a, args...)
}

// gives asks what an expression is worth; X is an argument.
func gives(t *testing.T, e string, x impl.Term, want string) {
	t.Helper()
	answers(t, "f(X) -> "+e+".", want, x)
}

// uses asks how many steps f takes.
func uses(t *testing.T, forms string, used int, args ...impl.Term) {
	t.Helper()
	if a := evaluated(t, meant(t, forms), args...); a.Used != used {
		t.Errorf("%s\nuses %d, not %d", forms, a.Used, used)
	}
}

// placeOf is the place of the nth node of a Kind, from 0 on.
func placeOf(t *testing.T, tree []impl.Node, kind int, nth int) int {
	t.Helper()
	for i, n := range tree {
		if n.Kind == kind {
			if nth--; nth < 0 {
				return i
			}
		}
	}
	t.Fatalf("too few nodes of Kind %d", kind)
	return 0
}

// marked is the tree of the forms of a module, and the place of the expression that stands between two § there.
func marked(t *testing.T, forms string) ([]impl.Node, int) {
	t.Helper()
	row := strings.Split(forms, "§")
	if len(row) != 3 {
		t.Fatalf("no two marks in %s", forms)
	}
	tree := parsed(t, "module m. "+strings.Join(row, ""))
	other := parsed(t, "module m. "+row[0]+"Marked_"+row[2])
	at := slices.IndexFunc(other, func(n impl.Node) bool { return n.S == "Marked_" })
	return tree, at + len(tree) - len(other)
}

// finds asks for the fault that Lint tells of a tree, and that of the second reading.
func finds(t *testing.T, what string, tree []impl.Node, code int, at int) {
	t.Helper()
	if c, a := impl.Lint(tree); c != code || a != at {
		t.Errorf("Lint of %s\nis %d at %d, not %d at %d", what, c, a, code, at)
	}
	if c, a := lintByWays(tree); c != code || a != at {
		t.Errorf("Lint of %s\nby the words is %d at %d, not %d at %d", what, c, a, code, at)
	}
}

// faultAtMarks asks for the first fault of the forms of a module: the expression that stands between two §.
func faultAtMarks(t *testing.T, code int, forms string) {
	t.Helper()
	tree, at := marked(t, forms)
	finds(t, forms, tree, code, at)
}

// faultBehindMarks asks for it at the node behind that expression: where a segment's size would be.
func faultBehindMarks(t *testing.T, code int, forms string) {
	t.Helper()
	tree, at := marked(t, forms)
	finds(t, forms, tree, code, at+1)
}

// filled is a text with each of some texts in the place of its @.
func filled(texts []string, hole string) []string {
	var row []string
	for _, s := range texts {
		row = append(row, strings.Replace(s, "@", hole, 1))
	}
	return row
}

// clean asks that Lint finds nothing.
func clean(t *testing.T, forms string) {
	t.Helper()
	tree := meant(t, forms)
	if c, a := lintByWays(tree); c != impl.OK {
		t.Errorf("Lint of %s\nby the words is %d at %d", forms, c, a)
	}
}

func TestConstantsOfMeaning(t *testing.T) {
	if impl.MaxArgs != 20 || impl.MaxFuel != 100000 {
		t.Error("limits")
	}
	if impl.ErrUndef != 7 || impl.ErrTwice != 8 || impl.ErrPat != 9 || impl.ErrVar != 10 || impl.ErrGuard != 11 {
		t.Error("codes")
	}
	if impl.AnValue != 0 || impl.AnError != 1 || impl.AnThrow != 2 || impl.AnExit != 3 || impl.AnFuel != 4 {
		t.Error("classes")
	}
}

func TestHelpersOfMeaning(t *testing.T) {
	tree := parsed(t, "module m. f(X) -> {X, Y}. f(X) -> X.") // X, guard, X, Y, tuple, body, clause, function, X, guard, X, ..
	if placeOf(t, tree, impl.NdVar, 0) != 0 || placeOf(t, tree, impl.NdVar, 2) != 3 || placeOf(t, tree, impl.NdFunc, 1) != 13 {
		t.Error("placeOf")
	}
	if c, at := lintByWays(tree); c != impl.ErrVar || at != 3 {
		t.Error(c, at)
	}
	if a := evalByWords(meant(t, "f(0) -> 1; f(N) when N > 0 -> N * f(N - 1)."), "f", []impl.Term{num(3)}, 32); !sameAnswer(a, impl.Answer{V: num(6), Used: 32}) {
		t.Error(a)
	}
	if tree, at := marked(t, "f(X) -> {1, {§[X, 2]§}, 3}."); tree[at].Kind != impl.NdList || at != 5 {
		t.Error(tree, at)
	}
	if s := shown(impl.Answer{Class: impl.AnThrow, V: tuple(num(1))}) + shown(impl.Answer{Class: impl.AnFuel}); s != "throw {1}out of fuel" {
		t.Error(s)
	}
}
