package tests

import (
	"strings"
	"testing"

	"loop.example/g00019/impl"
)

func TestFaultsOfFormsOfModulesP5(t *testing.T) {
	for _, x := range []struct {
		forms string
		code  int
		kind  int
		nth   int
	}{
		{"export g/1. f(X) -> X.", impl.ErrUndef, impl.NdExport, 0}, {"export f/0. f(X) -> X.", impl.ErrUndef, impl.NdExport, 0}, {"export f/1000000000000000. f(X) -> X.", impl.ErrUndef, impl.NdExport, 0}, {"export f/1, g/1, h/1. f(X) -> X.", impl.ErrUndef, impl.NdExport, 1},
		{"export f/1. export g/1. f(X) -> Y.", impl.ErrUndef, impl.NdExport, 1}, {"export hd/1. f(X) -> X.", impl.ErrUndef, impl.NdExport, 0}, {"export f/1, g/1. f(X) -> X. f(X) -> X.", impl.ErrUndef, impl.NdExport, 1}, {"export g/1.", impl.ErrUndef, impl.NdExport, 0},
		{"f(X) -> X. f(Y) -> Y.", impl.ErrTwice, impl.NdFunc, 1}, {"f() -> 1. g() -> 1. f(X) -> 1. g() -> Y.", impl.ErrTwice, impl.NdFunc, 3}, {"f(X) -> 1; f(Y) -> 2. f(_) -> g().", impl.ErrTwice, impl.NdFunc, 1}, {"f(X) -> X. f(g()) -> g(). f(X) -> X. g(X) -> X. g(X) -> X.", impl.ErrTwice, impl.NdFunc, 1},
		{"g() -> 1. f() -> 1. f() -> 2. g() -> 2.", impl.ErrTwice, impl.NdFunc, 2}, {"hd(X) -> X. hd(X) -> X.", impl.ErrTwice, impl.NdFunc, 1}, {"export f/1. f(X) -> X. f(X) -> X.", impl.ErrTwice, impl.NdFunc, 1},
	} {
		tree := parsed(t, "module m. "+x.forms)
		finds(t, x.forms, tree, x.code, placeOf(t, tree, x.kind, x.nth))
	}
	clean(t, "")
	clean(t, "export f/1, f/1, g/0. export f/0, f/1. f(X) -> X. g() -> 1. f() -> 1.")
	clean(t, "hd(X) -> X. self() -> 1. error(X, Y) -> X.")
}

func TestFaultsOfCallsP5(t *testing.T) {
	for _, forms := range []string{
		"f(X) -> §g(X)§.", "f(X) -> §f()§.", "f(X) -> §f(X, X)§.", "f(X) -> §hd()§.", "f(X) -> §hd(X, X)§.", "f(X) -> §self(X)§.", "f(X) -> §exit()§.", "f(X) -> §exit(X, X, X)§.", "f(X) -> §send_after(X, X)§.", "f(X) -> §error(X, X)§.", "f(X) -> §spawn()§.",
		"f(X) -> §fun g/1§.", "f(X) -> §fun f/0§.", "f(X) -> §fun hd/2§.", "f(X) -> §fun hd/0§.", "f(X) -> §fun f/1000000000000000§.", "f(X) -> §fun self/1§.", "f(X) -> {§fun g/0§, g()}.",
		"f(X) -> §m:f(X)§.", "f(X) -> §m:g(X)§.", "f(X) -> §m:hd()§.", "f(X) -> §m:hd(X, X)§.", "export f/1. f(X) -> §m:f()§.", "export f/1. f(X) -> m:f(§m:g(X)§).", "export g/1. f(X) -> §m:f(X)§. g(X) -> X.",
		"f(X) -> §g(Y)§.", "f(X) -> §g(h())§.", "f(X) -> hd(§g(h())§).", "f(X) -> a:b(§g()§).", "f(X) -> X(§g()§).", "f(X) -> §g()§(h()).", "f(X) -> §m:g(Y)§.", "f(X) -> f(X), §g()§. h() -> X.",
	} {
		faultAtMarks(t, impl.ErrUndef, forms)
	}
	clean(t, "export g/1. f(X) -> {g(X), m:g(X), fun g/1, fun f/1, f(X), a:b(X), a:hd(X, X), m:hd(X), fun hd/1, m:self(), m:exit(X, X), fun exit/2, fun self/0}. g(X) -> h(). h() -> 1.")
	clean(t, "f(X) -> m:hd(X). hd(X) -> X.")
	names := strings.Fields(guardNames + plainNames + processNames)
	for _, s := range names {
		name, number, _ := strings.Cut(s, "/")
		args := strings.Repeat("X, ", int(number[0]-'0')) + "X"
		few := strings.TrimSuffix(strings.TrimSuffix(args, "X"), ", ")
		clean(t, "f(X) -> "+name+"("+few+").")
		clean(t, "f(X) -> {fun "+s+", m:"+name+"("+few+")}.")
		if !strings.Contains(" exit/1 ", " "+s+" ") { // of exit there is one more
			faultAtMarks(t, impl.ErrUndef, "f(X) -> §"+name+"("+args+")§.")
		}
		if isNamed(guardNames, name, int(number[0]-'0')) {
			clean(t, "f(X) when "+name+"("+few+") -> 1.")
		} else {
			faultAtMarks(t, impl.ErrGuard, "f(X) when §"+name+"("+few+")§ -> 1.")
		}
	}
	if len(names) != 18+16+28 {
		t.Error("functions:", len(names))
	}
}

// closing is expressions that bind Y, but not behind them.
var closing = []string{
	"case 1 of Y -> 1 end", "case 1 of 1 -> Y = 1 end", "case 1 of Y when Y -> Y; 1 -> 1 end", "case 1 of _ -> {Y = 1}; _ -> Y = 2 end", "fun(Y) -> Y end", "fun() -> Y = 1 end", "fun(1) -> 1; (Y) -> Y end", "(fun(Y) -> Y end)(1)", "case 3 of {Y} -> Y; Y when hd(Y) -> 1; Y -> 1 end",
	"[Y || Y <- [1]]", "[Y = 1 || true]", "[1 || (Y = true)]", "[1 || 1 <- (Y = [])]", "[1 || Y <- [], Y]", "[1 || {Y, 1} <- [{1, 2}]]", "<<Y || <<Y>> <- <<1>>>>", "<<(Y = 1) || true>>", "<<1:(Y = 8) || true>>", "<<1:8 || <<1>> <- (Y = <<1>>)>>", "<<1 || <<1:4, Y:4>> <- <<1>>>>", "<<1 || <<Y:4, 2:4>> <- <<1>>>>",
	"begin Y = 1 end", "begin 1, Y = 1, Y end", "begin begin Y = 1 end end", "try Y = 1 catch error:1 -> 1 end", "try 1 catch Y:1 -> 1 end", "try 1 catch error:Y -> 1 end", "try 1 catch error:1 -> Y = 1 end", "try 1 catch error:1 -> 1 after Y = 1 end", "try 1, Y = 1 catch _:_ -> 1 after 1 end",
	"try throw(1) catch Y:_ -> 1 end", "try throw(1) catch _:Y -> Y end", "try throw(1) catch _:_ -> Y = 1 end", "try Y = 1, throw(Y) catch _:_ -> 1 after 1 end", "try {Y, 1} = {1, 2} catch _:_ -> 1 end", "try case {1, 2} of {Y, 3} -> 1 end catch _:_ -> 1 end", "try [throw(Y) || Y <- [1]] catch _:_ -> 1 end", "try (fun(Y) -> throw(Y) end)(1) catch _:_ -> 1 after Y = 1 end",
	"receive Y -> 1 end", "receive 1 -> Y = 1 end", "receive after (Y = 1) -> 1 end", "receive after 1 -> Y = 1 end", "receive Y -> Y after 1 -> 1 end", "(true andalso (Y = 1))", "(true orelse (Y = 1))", "(false orelse (Y = 1))", "(true andalso {1, [Y = 1]})", "(true andalso (true orelse (Y = true)))", "((true orelse (Y = 1)) andalso true)",
}

// What is bound in a part is asked for behind it: ErrVar.
func TestNotBoundBehindP5(t *testing.T) {
	for _, e := range closing {
		for _, forms := range filled([]string{"f(X) -> @, §Y§.", "f(X) -> {@, §Y§}.", "f(X) -> hd(@) + §Y§.", "f(X) -> {1, {@}}, Z = 1, §Y§.", "f(X) -> [@ | §Y§].", "f(X) -> case @ of 1 -> §Y§ end.", "f(X) -> begin @ end, §Y§.", "f(X) -> (@)(§Y§).", "f(X) -> <<1:(@), (§Y§)>>."}, e) {
			faultAtMarks(t, impl.ErrVar, forms)
		}
		clean(t, "f(X) -> "+e+", Y = 2, Y.")
		clean(t, "f(X) -> Y = 1, "+e+", Y.")
	}
}

// And what it was bound to there is nothing to what it is bound to behind it.
func TestBoundAnewP5(t *testing.T) {
	for _, e := range closing {
		if strings.HasPrefix(e, "receive") {
			continue // it goes up
		}
		answers(t, "f() -> "+e+", Y = {2}, Y.", "{2}")
		answers(t, "f() -> {"+e+", Y = {2}}, case {3} of Y -> 1; _ -> Y end.", "{2}")
		answers(t, "f() -> [Y || _ <- [1, 2], is_list(["+e+"]), {Y} <- [{[]}]].", "[[], []]")
		answers(t, "f() -> try "+e+", throw(9) catch _:Y -> {Y} end.", "{9}")
		answers(t, "f() -> g(), g(). g() -> "+e+", Y = {2}, Y.", "{2}")
	}
	for _, forms := range []string{
		"f() -> case {1, 2} of {Y, 3} -> Y; {3, Y} -> Y; {1, Y} -> Y end.", "f() -> case {1, 2} of {Y, _} when Y > 1 -> Y; {_, Y} -> Y end.", "f() -> g(1, 2). g(Y, 1) -> Y; g(_, Y) -> Y.", "f() -> (fun(Y, 1) -> Y; (_, Y) when Y < 2 -> Y; (_, Y) -> Y end)(1, 2).", "f() -> try throw({1, 2}) catch Y:1 -> Y; _:{Y, 1} -> Y; _:{_, Y} -> Y end.",
		"f() -> hd([Y || {Y, 1} <- [{3, 3}, {2, 1}]]).", "f() -> hd(tl([Y || Y <- [1, 2]])).", "f() -> Y = 2, g(1), Y. g(Y) -> Y.", "f() -> Y = 2, F = fun(Z) -> W = Z, W end, F(1), W = Y, W.", "f() -> hd(tl([Z || Y <- [1, 2], (Z = Y) > 0])).", "f() -> <<Y>> = <<Z || <<Y>> <- <<1, 2>>, (Z = Y) > 1>>, Y.",
	} {
		answers(t, forms, "2")
	}
}

// What is bound in one part is asked for in another part of the same node.
func TestNotBoundBesideP5(t *testing.T) {
	for _, forms := range []string{
		"f(Y) -> 1; f(_) -> §Y§.", "f(X) -> Y = 1; f(_) -> §Y§.", "f(Y) -> 1. g() -> §Y§.", "f(Y) when Y -> 1; f(_) when §Y§ -> 1.", "f() -> case 1 of Y -> 1; _ -> §Y§ end.", "f() -> case 1 of {Y, Z} -> Y; {Z} -> {Z, §Y§} end.", "f() -> fun(Y) -> 1; (_) -> §Y§ end.",
		"f() -> try Y = 1 catch _:_ -> §Y§ end.", "f() -> try Y = 1 catch error:1 -> 1 after §Y§ end.", "f() -> try 1 catch Y:Z -> 1; _:_ -> §Y§ end.", "f() -> try 1 catch Y:Z -> 1 after §Z§ end.", "f() -> try 1 catch _:Z when §Y§ -> Y = 1 end.",
		"f() -> receive Y -> 1; _ -> §Y§ end.", "f() -> receive Y -> 1 after §Y§ -> 1 end.", "f() -> receive Y -> 1 after 1 -> §Y§ end.", "f() -> receive 1 -> §Y§ after (Y = 1) -> 1 end.", "f() -> receive after (Y = 1) -> §Y§ end.", "f() -> receive 1 when §Y§ -> 1 after (Y = 1) -> Y end.",
		"f() -> [§Y§ || 1 <- [Y || Y <- [1]]].", "f() -> [1 || 1 <- §Y§, Y <- [1]].", "f() -> [1 || Y <- {§Y§}].", "f() -> [1 || §Y§, (Y = true)].", "f() -> <<1 || <<Y>> <- §Y§>>.", "f() -> [X || {X, Y} <- []], §X§.", "f() -> (Y = true) andalso (Z = Y), {Y, §Z§}.", "f() -> (true orelse (Y = true)) orelse §Y§.",
		"f() -> {§Y§, Y = 1}.", "f() -> [§Y§ | (Y = [])].", "f() -> §Y§ + (Y = 1).", "f() -> hd(§Y§), Y = 1.", "f() -> §Y§(Y = 1).", "f() -> {Y, 1} = §Y§.", "f() -> #{§Y§ => (Y = 1)}.", "f() -> #{a => §Y§ | Y = #{}}.", "f() -> <<(§Y§):(Y = 8)>>.", "f() -> <<1:§Y§, (Y = 8)>>.", "f() -> §Y§ ! (Y = 1).",
		"f() -> fun() -> §Y§ end, Y = 1.", "f() -> fun(X) -> fun(Y) -> X end, §Y§ end.", "f(X) -> [fun() -> Y = X end || Y <- X], §Y§.", "f() -> begin Y = 1, begin Z = Y end, §Z§ end.",
	} {
		faultAtMarks(t, impl.ErrVar, forms)
	}
}

// What is bound is asked for where it is bound.
func TestBoundP5(t *testing.T) {
	for _, e := range []string{
		"Y = 1, Y", "{Y = 1, Y}", "[Y = 1, Y | Y]", "#{(Y = 1) => Y}", "#{a => (Y = 1) | Y}", "<<(Y = 1):Y>>", "<<1:(Y = 1), Y>>", "(Y = 1) + Y", "(Y = true) andalso Y", "(Y = true) orelse {Y}", "element((Y = 1), Y)", "m:hd(Y = 1), Y", "a:b(Y = 1, Y)", "(Y = 1)(Y)", "X(Y = 1, Y), Y", "(Y = 1) ! Y", "- (Y = 1) + Y",
		"not (Y = true), Y", "{Y, Z} = {1, 2}, Y + Z", "Y = (Z = 1), {Y, Z}", "(Y = Z) = 1, Y + Z", "{Y, {Z}} = (W = 1), {Y, Z, W}", "[Y | Z] = 1, {Y, Z}", "#{a => Y, b => Z} = 1, {Y, Z}", "<<Y, Z:Y, W/binary>> = 1, {Y, Z, W}", "case (Y = 1) of 1 -> Y end, Y", "case {Y = 1} of {Z} when Y == Z -> {Y, Z} end",
		"case 1 of Y when Y, {Y} -> Y end", "fun(Y) when Y -> Y end", "fun(Y, Y) -> Y end", "fun(Y) -> fun(Z) -> {Y, Z} end end", "Y = 1, fun() -> {X, Y, Z = 1, Z} end, Y", "[Y || Y <- X]", "[{Y, Z, W} || Y <- X, Z <- Y, (W = Z) == Y, W]", "[Y || 1 <- (Y = X)]", "[Y || Z <- [Y = 1], Y]", "[Y || (Y = true), {Z} <- [Y], Z == Y]", "<<Y:Z || <<Y, Z:Y>> <- X, (W = Z) == Y, W>>",
		"try Y = 1, Y catch Y:Y -> Y end", "try 1 catch Y:{Z, Y} when Y, Z -> {Y, Z} after Y = 1, Y end", "Y = 1, try Y catch Y:_ -> Y after Y end", "receive {Y, Z} when Y -> Y + Z after (Y = 1) -> Z = 1, Z end", "Y = 1, receive Y -> Y after Y -> Y end", "begin Y = 1, Y end", "Y = 1, begin Z = Y, Z end, Y", "true andalso (Y = X) == Y", "{Y = 1, begin Y end, [Y || true], Y}",
	} {
		clean(t, "f(X) -> "+e+".")
		clean(t, "f(1) -> 1; f(X) when X -> "+e+", X.")
	}
}

// Of two faults the one that is met first is told.
func TestFirstOfTwoFaultsP5(t *testing.T) {
	for _, x := range []struct {
		code  int
		forms string
	}{
		{impl.ErrVar, "f(X) -> §Y§, Z."}, {impl.ErrVar, "f(X) -> {Y = 1, §Z§, W}."}, {impl.ErrVar, "f(X) -> {1, 2} = §Y§, g()."}, {impl.ErrVar, "f(X) -> g() = §Y§."}, {impl.ErrPat, "f(X) -> §g()§ = 1, Y."}, {impl.ErrVar, "f(X) -> g() = {1, {§Y§}}."}, {impl.ErrPat, "f(X) -> (1 = §h()§) = 1."},
		{impl.ErrPat, "f(§g()§) when self() -> Y."}, {impl.ErrGuard, "f(X) when §self()§ -> Y."}, {impl.ErrVar, "f(X) -> §Y§; f(g()) when self() -> Y."}, {impl.ErrPat, "f(X) -> 1; f(§g()§) when self() -> Y."}, {impl.ErrVar, "f(X) -> §Y§. f(X) -> 1."}, {impl.ErrUndef, "f(X) -> §g(Y)§."}, {impl.ErrVar, "f(X) -> hd({§Y§, g()})."},
		{impl.ErrVar, "f(X) -> [Z || Y <- §W§, g()]."}, {impl.ErrPat, "f(X) -> [Z || §g()§ <- [], W]."}, {impl.ErrUndef, "f(X) -> [Z || Y <- [], §g()§]."}, {impl.ErrVar, "f(X) -> [§Z§ || Y <- []], g()."}, {impl.ErrVar, "f(X) -> <<(g()):Z || Y <- §W§>>."}, {impl.ErrPat, "f(X) -> <<(g()) || §Y§ <- 1, W>>."}, {impl.ErrUndef, "f(X) -> <<(§g()§):Z || <<Y>> <- 1>>."}, {impl.ErrVar, "f(X) -> <<1:§Z§ || <<Y>> <- 1>>, g()."},
		{impl.ErrVar, "f(X) -> receive g() -> Z after §Y§ -> W end."}, {impl.ErrPat, "f(X) -> receive §g()§ -> Z after 1 -> W end."}, {impl.ErrVar, "f(X) -> receive Y -> §Z§ after 1 -> W end."}, {impl.ErrVar, "f(X) -> receive Y -> Y after 1 -> §W§ end, g()."}, {impl.ErrPat, "f(X) -> receive §g()§ -> 1; Z -> W end."}, {impl.ErrUndef, "f(X) -> receive 1 -> §g()§ end, Y."},
		{impl.ErrVar, "f(X) -> try §Y§ catch _:g() -> W after V end."}, {impl.ErrPat, "f(X) -> try 1 catch _:§g()§ -> W after V end."}, {impl.ErrGuard, "f(X) -> try 1 catch _:Y when §g()§ -> W after V end."}, {impl.ErrVar, "f(X) -> try 1 catch _:Y -> §W§ after V end."}, {impl.ErrVar, "f(X) -> try 1 catch _:Y -> 1 after §V§ end, g()."},
		{impl.ErrVar, "f(X) -> case §Y§ of g() -> Z end."}, {impl.ErrPat, "f(X) -> case 1 of §g()§ -> Z; self() -> 1 end."}, {impl.ErrVar, "f(X) -> case 1 of 1 -> §Z§; g() -> 1 end."}, {impl.ErrPat, "f(X) -> fun(§g()§) -> Z end, W."}, {impl.ErrVar, "f(X) -> fun(Y) -> §Z§ end, g()."}, {impl.ErrVar, "f(X) -> [§Y§ | g()]."}, {impl.ErrUndef, "f(X) -> [1, §g()§ | Y]."},
		{impl.ErrVar, "f(X) -> #{§Y§ => g()}."}, {impl.ErrUndef, "f(X) -> #{1 => §g()§, Y => 1}."}, {impl.ErrVar, "f(X) -> #{1 => 1, §Y§ => 1 | g()}."}, {impl.ErrVar, "f(X) -> <<(§Y§):(g())>>."}, {impl.ErrUndef, "f(X) -> <<1:(§g()§), Y>>."}, {impl.ErrUndef, "f(X) -> (§g()§)(Y)."}, {impl.ErrVar, "f(X) -> X(§Y§, g())."}, {impl.ErrVar, "f(X) -> §Y§ ! g()."}, {impl.ErrVar, "f(X) -> §Y§ andalso g()."}, {impl.ErrVar, "f(X) -> §Y§ + g()."},
		{impl.ErrPat, "f({§g()§, h()}) -> 1."}, {impl.ErrPat, "f(#{a => §g()§, K => 1}) -> 1."}, {impl.ErrPat, "f(#{§K§ => g()}) -> 1."}, {impl.ErrPat, "f(<<(§a§):Z>>) -> 1."}, {impl.ErrVar, "f(<<X:§Z§, (a)>>) -> 1."}, {impl.ErrGuard, "f(X) when {§g()§, Y} -> 1."}, {impl.ErrVar, "f(X) when §Y§, g() -> 1."}, {impl.ErrVar, "f(X) when {1, [§Y§ | g()]} -> 1."},
	} {
		faultAtMarks(t, x.code, x.forms)
	}
}

func TestLintOfNoModules(t *testing.T) {
	for name, tree := range wrongTrees() {
		if code, at := impl.Lint(tree); code != impl.ErrBad || at != 0 {
			t.Error(name, code, at)
		}
		if a, code := impl.Eval(tree, "f", nil, 10); code != impl.ErrBad || !sameAnswer(a, impl.Answer{}) {
			t.Error(name, a, code)
		}
	}
}
