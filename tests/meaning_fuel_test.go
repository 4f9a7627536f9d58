package tests

import (
	"slices"
	"strings"
	"testing"
	"time"

	"loop.example/g00019/impl"
)

// endless is functions f that never end.
var endless = []string{
	"f() -> f().", "f() -> 1 + f().", "f() -> f(0). f(N) -> f(N + 1).", "f() when true -> f().", "f() -> g(). g() -> h(). h() -> f().", "f() -> F = fun(G) -> G(G) end, F(F).", "f() -> (fun f/0)().", "export f/0. f() -> m:f().",
	"f() -> try f() catch _:_ -> 1 end.", "f() -> try f() catch _:_ -> 1 after f() end.", "f() -> try throw(1) catch _:_ -> f() end.", "f() -> try 1 catch _:_ -> 1 after f() end.", "f() -> try throw(f()) catch error:_ -> 1 end.", "f() -> case f() of _ -> 1 end.", "f() -> begin f() end.", "f() -> {[#{a => f()}]}.",
	"f() -> [f() || true].", "f() -> [1 || _ <- f()].", "f() -> [1 || f()].", "f() -> [1 || _ <- [1, 2], f()].", "f() -> <<(f()) || true>>.", "f() -> <<1:(f())>>.", "f() -> f() orelse true.", "f() -> true andalso f().", "f() -> f() ! 1.", "f() -> receive after f() -> 1 end.", "f() -> X = f(), X.", "f() -> -f().", "f() -> f()(1).", "f() -> hd(f()).",
	"f() -> f([]). f(L) -> f(L ++ tl([1 | L])).", "f() -> f(<<1>>). f(B) -> f(<<B/binary>>).", "f() -> f([1, 2, 3, 4, 5, 6, 7, 8, 9]). f(L) -> [1 || _ <- L, _ <- L, _ <- L, _ <- L, _ <- L, false], f(L).", "f() -> f(<<1, 2, 3, 4, 5, 6, 7, 8, 9>>). f(B) -> <<1 || <<_:1>> <- B, <<_:1>> <- B, false>>, f(B).",
}

func TestFunctionsThatNeverEndP6(t *testing.T) {
	t.Parallel()
	for _, forms := range endless {
		tree := meant(t, forms)
		begun := time.Now()
		for _, fuel := range []int{0, 1, 2, 3, 10, 999, impl.MaxFuel - 1, impl.MaxFuel} {
			if a, code := impl.Eval(tree, "f", nil, fuel); code != impl.OK || !sameAnswer(a, impl.Answer{Class: impl.AnFuel, Used: fuel}) {
				t.Errorf("%s\nat a fuel of %d: %s, %d used, code %d", forms, fuel, shown(a), a.Used, code)
			}
		}
		if past := time.Since(begun); past > time.Minute {
			t.Errorf("%s takes %v", forms, past)
		}
	}
}

func TestFuelAtItsLimitsP6(t *testing.T) {
	tree := meant(t, "f() -> 1. g(X) -> X.")
	for _, x := range []struct {
		fuel, code int
		want       impl.Answer
	}{
		{-1, impl.ErrBad, impl.Answer{}}, {-1 << 63, impl.ErrBad, impl.Answer{}}, {0, impl.OK, impl.Answer{Class: impl.AnFuel}}, {1, impl.OK, impl.Answer{Class: impl.AnFuel, Used: 1}}, {2, impl.OK, impl.Answer{V: num(1), Used: 2}}, {3, impl.OK, impl.Answer{V: num(1), Used: 2}},
		{impl.MaxFuel, impl.OK, impl.Answer{V: num(1), Used: 2}}, {impl.MaxFuel + 1, impl.ErrBad, impl.Answer{}}, {1<<63 - 1, impl.ErrBad, impl.Answer{}},
	} {
		if a, code := impl.Eval(tree, "f", nil, x.fuel); code != x.code || !sameAnswer(a, x.want) {
			t.Error(x.fuel, a, code)
		}
	}
	// Just as many steps as there may be: f, and of each of n rounds a call with its name, N - 1 (3), the guard (3).
	long := meant(t, "f(N) when N > 0 -> f(N - 1); f(_) -> {1}.")
	for n, want := range map[int]impl.Answer{
		12499: {V: tuple(num(1)), Used: 12499*8 + 6}, 12500: {Class: impl.AnFuel, Used: impl.MaxFuel}, impl.MaxInt: {Class: impl.AnFuel, Used: impl.MaxFuel},
	} {
		if a, code := impl.Eval(long, "f", []impl.Term{num(n)}, impl.MaxFuel); code != impl.OK || !sameAnswer(a, want) {
			t.Error(n, a, code)
		}
	}
	full := meant(t, "f(N) when N > 0 -> f(N - 1); f(_) -> {1}. g(N) -> [1, 2 | f(N)], 1.")
	for fuel, want := range map[int]impl.Answer{
		12497*8 + 6 + 6: {Class: impl.AnError, V: atom("badarg"), Used: 12497*8 + 6 + 6}, 12497*8 + 6 + 5: {Class: impl.AnFuel, Used: 12497*8 + 6 + 5},
	} {
		if a, code := impl.Eval(full, "g", []impl.Term{num(12497)}, fuel); code != impl.OK || !sameAnswer(a, want) {
			t.Error(fuel, a, code)
		}
	}
}

// ofArgs is a module whose f has so many arguments.
func ofArgs(n int) string {
	row := strings.TrimSuffix(strings.Repeat("_, ", n), ", ")
	return "f(" + row + ") -> yes. g(" + row + ") -> no."
}

func TestArgumentsAtTheirLimitsP6(t *testing.T) {
	for n, want := range map[int]int{0: impl.OK, 1: impl.OK, 19: impl.OK, 20: impl.OK, 21: impl.ErrBad, 22: impl.ErrBad} {
		tree := meant(t, ofArgs(n))
		a, code := impl.Eval(tree, "f", slicesOf(n, num(1)), 10)
		if code != want || code == impl.OK && !sameAnswer(a, impl.Answer{V: atom("yes"), Used: 2}) || code != impl.OK && !sameAnswer(a, impl.Answer{}) {
			t.Error(n, a, code)
		}
	}
	// What a function calls may have more.
	row := strings.TrimSuffix(strings.Repeat("1, ", 25), ", ")
	answers(t, "f() -> g("+row+"). "+strings.ReplaceAll(ofArgs(25), "f(", "h("), "no")
	tree := meant(t, "f(X) -> X. g() -> 1.")
	for _, x := range []struct {
		name string
		n    int
	}{{"f", 0}, {"f", 2}, {"g", 1}, {"h", 0}, {"h", 1}, {"hd", 1}, {"", 1}, {"F", 1}, {"f/1", 1}, {"m", 0}, {"m:f", 1}, {"self", 0}, {"f\x00", 1}, {"h", 20}} {
		if a, code := impl.Eval(tree, x.name, slicesOf(x.n, num(1)), 10); code != impl.ErrUndef || !sameAnswer(a, impl.Answer{}) {
			t.Error(x.name, x.n, a, code)
		}
	}
	// ErrBad is ahead of ErrUndef.
	if _, code := impl.Eval(tree, "h", nil, -1); code != impl.ErrBad {
		t.Error(code)
	}
	if _, code := impl.Eval(tree, "h", []impl.Term{{}}, 1); code != impl.ErrBad {
		t.Error(code)
	}
	if _, code := impl.Eval(tree, "h", slicesOf(21, num(1)), 1); code != impl.ErrBad {
		t.Error(code)
	}
	if _, code := impl.Eval(parsed(t, "module m. f(X) -> Y."), "f", nil, 1); code != impl.ErrBad {
		t.Error(code)
	}
	if a, code := impl.Eval(parsed(t, "module m. f(X) -> Y."), "f", []impl.Term{num(1)}, 10); code != impl.ErrBad || !sameAnswer(a, impl.Answer{}) {
		t.Error(a, code)
	}
}

func TestArgumentsThatAreNotRightP6(t *testing.T) {
	tree := meant(t, "f(_) -> 1. f(_, _) -> 1.")
	for name, x := range wrongTerms() {
		for _, args := range [][]impl.Term{{x}, {num(1), x}, {x, num(1)}} {
			if a, code := impl.Eval(tree, "f", args, 10); code != impl.ErrBad || !sameAnswer(a, impl.Answer{}) {
				t.Error(name, a, code)
			}
		}
	}
	all := meant(t, "f(X) -> X.")
	for _, x := range append(anyTerms(200), many(num(1), 1999), nest(num(1), 99), bin(strings.Repeat("\xff", 4000)), many(bin(strings.Repeat("x", 4000)), 1999)) {
		if a, code := impl.Eval(all, "f", []impl.Term{x}, 2); code != impl.OK || !sameAnswer(a, impl.Answer{V: x, Used: 2}) {
			t.Error(x, a, code)
		}
	}
}

// Nothing is written into what comes in, nor into the spare room behind it, and an answer is new memory.
func TestEvalLeavesItsArguments(t *testing.T) {
	tree := meant(t, "f(X, Y) -> L = [Z || {Z, _} <- X], M = #{b => 5 | Y}, {X, X, Y, L ++ X, [1 | X], reverse(X), map_remove(a, M), M, tl(X) ++ [1], setelement(1, hd(X), 9), tuple_to_list(hd(X)), list_to_tuple(X)}.")
	before := copied(tree)
	room := make([]impl.Term, 2, 8)
	room[0], room[1] = tuple(num(1), num(2)), tuple(num(3), list(num(4)))
	x := impl.Term{Kind: impl.TmList, Kids: room}
	y := dict(atom("a"), list(num(1)), atom("c"), tuple())
	args := make([]impl.Term, 2, 4)
	args[0], args[1] = x, y
	want := evalByWords(tree, "f", args, 1000)
	a, code := impl.Eval(tree, "f", args, 1000)
	if code != impl.OK || !sameAnswer(a, want) {
		t.Fatal(shown(a), code, shown(want))
	}
	if !sameTree(tree, before) || !zero(args[:4][2]) || !slices.EqualFunc(room[:8], []impl.Term{tuple(num(1), num(2)), tuple(num(3), list(num(4))), {}, {}, {}, {}, {}, {}}, same) {
		t.Error("an argument was written to")
	}
	first, text := a.V.Kids[1], shown(impl.Answer{V: a.V.Kids[1]})
	spoil(&a.V.Kids[0])
	if !same(x, list(tuple(num(1), num(2)), tuple(num(3), list(num(4))))) || shown(impl.Answer{V: first}) != text {
		t.Error("an answer shares what it has")
	}
	b, _ := impl.Eval(tree, "f", args, 1000)
	if !sameAnswer(b, want) {
		t.Error("an answer hangs on one ahead of it")
	}
	code, at := impl.Lint(tree)
	if code != impl.OK || at != 0 || !sameTree(tree, before) {
		t.Error("Lint", code, at)
	}
}
