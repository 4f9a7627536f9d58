package tests

import (
	"strings"
	"testing"

	"loop.example/g00019/impl"
)

// patternPlaces is forms with @ where a pattern is wanted.
var patternPlaces = []string{
	"f(@) -> 1.", "f(1, @) -> 1.", "f(1) -> 1; f(@) -> 1.", "f() -> 1. f(1) -> 1. f(1, @) -> 1.", "f() -> @ = 1.", "f() -> case 1 of @ -> 1 end.", "f() -> case 1 of 1 -> 1; @ -> 1 end.", "f() -> fun(@) -> 1 end.", "f() -> fun(1) -> 1; (@) -> 1 end.",
	"f() -> receive @ -> 1 end.", "f() -> receive @ -> 1 after 1 -> 1 end.", "f() -> try 1 catch error:@ -> 1 end.", "f() -> try 1 catch C:@ -> 1 after 1 end.", "f() -> [1 || @ <- []].", "f() -> [1 || 1 <- [], @ <- []].", "f() -> {(@ = 1)}.",
}

// patternsAround is patterns with @ where another one stands.
var patternsAround = []string{"@", "{1, @}", "[@]", "[1, @]", "[@ | _]", "[_ | @]", "#{a => @}", "#{a => 1, {b, [-1]} => @}", "V = @", "(@ = V)", "{[#{1 => {@}}]}"}

func TestFaultsInPatternsP5(t *testing.T) {
	for _, p := range []string{
		"§g()§", "§hd([1])§", "§m:f()§", "§(g(1))(2)§", "§1 + 2§", `§"a" ++ Y§`, "§true andalso true§", "§-(-1)§", "§-Y§", "§- a§", "§not 1§", "§not true§", "§-(1 + 2)§", "§#{a => 1 | #{}}§", "§#{| Y}§", "§a ! b§",
		"§fun() -> 1 end§", "§fun g/0§", "§case 1 of 1 -> 1 end§", "§receive after 1 -> 1 end§", "§try 1 catch Y:Y -> 1 end§", "§begin 1 end§", "§[1 || true]§", "§<<1 || true>>§",
		"{§g()§, (1 + 2)}", "{§(1 + 2)§, g()}", "[{Y, -1, \"a\"} | §g()§]", "_ = §g()§", "§g()§ = (1 + 2)", "[§a()§ | b()]", "#{a => §a()§, b => b()}", "{{Y}, [Y], [1, §g()§], g()}",
	} {
		for _, around := range filled(patternsAround, "("+p+")") {
			for _, forms := range filled(patternPlaces, around) {
				faultAtMarks(t, impl.ErrPat, forms)
			}
		}
	}
}

func TestCleanPatternsP5(t *testing.T) {
	for _, p := range []string{
		"1", "-1", "-0", "1000000000000000", "a", `"abc"`, `""`, "Y", "_", "{}", "{Y, _, Y}", "[]", "[Y, 1 | Z]", "[1 | 2]", "#{}", "#{a => Y, 1 => _, -1 => 2, \"a\" => {Z}, {a, [1, -2, \"s\"], {}} => [], [] => W}", "#{a => 1, a => 2}", "Y = Z", "{Y} = Z = _",
		"<<>>", "<<Y>>", "<<_>>", "<<1, 2:4, Y:3/signed, Z:49/little>>", "<<Y/binary>>", "<<Y:2/binary, Z/binary>>", "<<Y:100, Z:1000000/binary>>", `<<"ab":2/binary, "c"/binary/bits>>`, "<<Y, Z:Y, W:Z/binary>>", "{Y, <<Z:Y>>}", "(Y = <<Z:Y>>)", "#{a => Y, b => <<Z:Y>>}", "[Y | <<Z:Y>>]", "<<Y:0>>", "<<N, N:N>>",
	} {
		for _, forms := range filled(patternPlaces, p) {
			clean(t, forms)
		}
	}
	clean(t, "f(X, Y, [X | Y]) -> case {X, Y} of {Y, X} -> 1 end.")
	clean(t, "f(N, <<X:N, Y/binary>>) -> {X, Y}.")
	clean(t, "f(N) -> [X || <<X:N>> <- <<1>>].")
	clean(t, "f(N) -> <<X || <<X:N>> <- <<1>>, <<_:X>> <- <<1>>, <<>> <- 1>>.")
	clean(t, "f(N, <<N:N>>) -> 1.")
}

func TestFaultsOfMapKeysP5(t *testing.T) {
	for _, key := range []string{
		"§K§", "§_§", "{a, §K§}", "[1, {§K§}]", "§g()§", "§- K§", "§- -1§", "§not true§", "§[a | b]§", "{§[a | []]§}", "§<<1>>§", "§<<>>§", "§1 + 2§", "§a = 1§", "{1, §(a = 1)§}", "§#{}§", "{§#{a => 1}§}", "§fun f/1§", "[{}, §begin 1 end§]", "{§K§, L}", "[{1, §K§}, [L]]", "{§[K | 1]§, K}",
	} {
		for _, m := range filled([]string{"#{@ => Y}", "{#{a => 1, @ => _}}", "#{a => #{@ => 1}}", "#{@ => g()}", "[#{a => 1, @ => 1, X => g()}]"}, "("+key+")") {
			for _, forms := range filled(patternPlaces, m) {
				faultAtMarks(t, impl.ErrPat, forms)
			}
		}
	}
	faultAtMarks(t, impl.ErrPat, "f(K) -> case 1 of #{§K§ => 1} -> 1 end.")
	faultAtMarks(t, impl.ErrPat, "f(#{a => §g()§, K => 1}) -> 1.")
	faultAtMarks(t, impl.ErrPat, "f(K) -> #{a => _} = #{K => 1}, #{{§K()§} => 1} = K.")
}

// keyOf is a map's key that is so many lists deep, the innermost one empty.
func keyOf(deep int) string { return strings.Repeat("[", deep) + strings.Repeat("]", deep) }

func TestKeysThatAreNoTermsP5(t *testing.T) {
	s := `"` + strings.Repeat("x", 199) + `"` // a list of 200 terms
	row := strings.Repeat(s+", ", 9)
	clean(t, "f(#{"+keyOf(100)+" => 1}) -> 1.")
	faultAtMarks(t, impl.ErrPat, "f(#{§"+keyOf(101)+"§ => 1}) -> 1.")
	faultAtMarks(t, impl.ErrPat, "f(#{a => 1, §{"+keyOf(100)+"}§ => g()}) -> 1.")
	faultAtMarks(t, impl.ErrPat, "f(#{a => §g()§, "+keyOf(101)+" => 1}) -> 1.")
	clean(t, "f(#{{"+row+`"`+strings.Repeat("y", 198)+`"} => 1}) -> 1.`) // 1 + 9 * 200 + 199
	faultAtMarks(t, impl.ErrPat, "f(#{§{"+row+`"`+strings.Repeat("y", 199)+`"}§ => 1}) -> 1.`)
	faultAtMarks(t, impl.ErrPat, "f(#{{"+row+s+", "+s+", §K§} => 1}) -> 1.")
}

func TestFaultsOfSegmentPatternsP5(t *testing.T) {
	places := append([]string{"f() -> [1 || {@} <- 1].", "f() -> <<1 || @ <- 1>>.", "f() -> <<1 || <<1>> <- 1, @ <- 1>>."}, patternPlaces...)
	for _, bin := range []string{
		"<<(§a§)>>", "<<(§-1§)>>", "<<(§{}§)>>", `<<§"a"§>>`, `<<§"a"§:8>>`, "<<§1§/binary>>", "<<§1§:1/binary>>", "<<§1§/binary, 1>>", "<<(§Y = Z§)>>", "<<(§<<>>§)/binary>>", "<<(§a§)/binary>>", "<<(§g()§):Z>>", "<<Y, (§a§):Z>>", "<<(§a§):(b)>>", "<<(§g()§):(g())>>",
		"<<Y:(§a§)>>", "<<Y:(§-1§)>>", `<<Y:§"a"§>>`, `<<Y:§""§/binary>>`, "<<Y:(§1 + 2§)>>", "<<Y:(§g()§)/binary>>", "<<Y:(§{Z}§), (a)>>", "<<Y, Z:2, W:(§[]§)/little>>",
	} {
		for _, forms := range filled(places, bin) {
			faultAtMarks(t, impl.ErrPat, forms)
		}
	}
	for _, bin := range []string{"<<Y:§Z§>>", "<<Y:§_§>>", "<<Y:§Z§/binary>>", "<<Y:§Z§, (a)>>", "<<Y:§Z§, Z>>", "<<Y:§Y§>>", "<<Y, Z:§Z§/binary>>", "<<1:§Z§>>", `<<"a":§Z§/binary>>`, "<<_:§_§>>", "<<_, Z:§_§>>"} {
		for _, forms := range filled(places, bin) {
			faultAtMarks(t, impl.ErrVar, forms)
		}
	}
	for _, bin := range []string{"<<§Y§/binary, 1>>", "<<§Y§/binary/bits, 1:1>>", "<<§Y§/binary, Z/binary>>", `<<§"a"§/binary, 1:1>>`, "<<§Y§/binary, (a)>>", "<<1, §Y§/binary, (a)>>", "<<Y:8, Z:Y/binary, §_§/binary, W:_>>"} {
		for _, forms := range filled(places, bin) {
			faultBehindMarks(t, impl.ErrPat, forms)
		}
	}
	faultAtMarks(t, impl.ErrVar, "f(<<X:§N§>>, N) -> 1.")
	faultAtMarks(t, impl.ErrVar, "f() -> {<<X:§N§>>, N} = 1.")
	faultAtMarks(t, impl.ErrVar, "f() -> (<<X:§N§>> = N) = 1.")
}

func TestFaultsOfGeneratorsOverBinariesP5(t *testing.T) {
	for _, p := range []string{"§X§", "§_§", "§1§", "§{<<X>>}§", "§<<X>> = Y§", "§g()§", `§"a"§`} {
		faultAtMarks(t, impl.ErrPat, "f() -> <<1 || "+p+" <- 1>>.")
		faultAtMarks(t, impl.ErrPat, "f() -> <<1 || <<>> <- 1, true, "+p+" <- 1>>.")
	}
	faultAtMarks(t, impl.ErrUndef, "f() -> <<1 || X <- §g()§>>.")
	faultAtMarks(t, impl.ErrPat, "f() -> <<(g()) || §X§ <- 1>>.")
	clean(t, "f() -> <<1 || <<>> <- 1>>.")
	clean(t, "f() -> <<1 || (<<X>>) <- 1>>.")
	clean(t, "f() -> [1 || X <- 1, <<X>> <- 1, {} <- 1].")
}

func TestFaultsOfVariablesP5(t *testing.T) {
	for _, e := range []string{
		"§X§", "§_§", "{§X§}", "{1, §_§}", "[§X§ | Y]", "[a | §X§]", "#{§X§ => Y}", "#{a => §X§}", "#{a => 1 | §X§}", "<<§X§>>", "<<1:§X§>>", "<<1, 2:3, (§X§):Y>>", "1 + §X§", "§X§ + Y", "not §X§", "-§X§", "§X§ ! Y", "1 ! §X§", "f(§X§)", "hd(§X§)", "m:hd(§X§)", "a:b(§X§)", "(§X§)(Y)", "f(1)(§X§)",
		"fun() -> §X§ end", "fun(Y) when §X§ -> Y end", "case §X§ of X -> 1 end", "case 1 of Y -> Y; Z -> §Y§ end", "receive after §X§ -> 1 end", "receive Y -> §X§ end", "receive after 1 -> §X§ end", "try §X§ catch Y:Z -> 1 end", "try 1 catch Y:Z -> {Y, Z, §X§} end", "try 1 catch Y:Z -> 1 after §Y§ end",
		"begin §X§ end", "[§X§ || true]", "[1 || §X§]", "[1 || X <- §X§]", "[1 || §X§, X <- 1]", "<<(§X§) || true>>", "<<1:§X§ || true>>", "<<1 || <<X>> <- §X§>>", "X = §X§", "{X, Y} = {1, §Y§}", "(§X§ orelse true)", "true andalso §X§",
	} {
		for _, forms := range filled([]string{"f(_) -> @.", "f(1) -> 1; f(_) -> 1, @, Z.", "f(_) -> {@}.", "g(X, Y, Z) -> X. f(_) -> begin @ end. g(X) -> X."}, "("+e+")") {
			faultAtMarks(t, impl.ErrVar, forms)
		}
	}
}

func TestFaultsInGuardsP5(t *testing.T) {
	guards := []string{"f(X) when @ -> 1.", "f(X) when X, @, self() -> 1.", "f(X) -> 1; f(X) when @ -> g().", "f(X) -> case X of Y when @ -> 1 end.", "f(X) -> fun(X) when @ -> 1 end.", "f(X) -> receive X when @ -> 1 end.", "f(X) -> try 1 catch X:X when @ -> 1 end."}
	for _, e := range []string{
		"§m:is_atom(X)§", "§a:b()§", "§#{}§", "§#{a => X}§", "§<<>>§", "§<<1>>§", "§Y = 1§", "§_ = X§", "§X ! X§", "§X(1)§", "§is_atom(X)(1)§", "§fun() -> 1 end§", "§fun is_atom/1§", "§case 1 of 1 -> 1 end§", "§receive after 1 -> 1 end§", "§try 1 catch X:X -> 1 end§", "§begin 1 end§", "§[1 || true]§", "§<<1 || true>>§",
		"§self()§", "§error(X)§", "§throw(X)§", "§exit(X)§", "§reverse(X)§", "§hash(X)§", "§setelement(1, X, X)§", "§map_keys(X)§", "§g()§", "§f(X)§", "§is_atom()§", "§is_atom(X, X)§", "§element(X)§", "§hd(X, X)§", "§tab_size(X)§", "§exit(X, X)§", "§g(_)§",
		"{1, §self()§}", "[X | §self()§]", "[§self()§, g()]", "hd(§self()§)", "not §self()§", "-§g()§", "X andalso §self()§", "§g()§ orelse self()", "X + §hash(Z)§", "is_atom(§hash(X)§)", "{§self()§, Y}", "(X == 1) and §begin Y end§",
	} {
		for _, forms := range filled(guards, "("+e+")") {
			faultAtMarks(t, impl.ErrGuard, forms)
		}
	}
	for _, e := range []string{"§Z§", "§_§", "{X, §Z§, self()}", "hd(§Z§)", "X == §_§", "{§Z§, g()}", "[X | §Z§]", "is_atom(§_§)", "true orelse §Z§"} {
		for _, forms := range filled(guards, "("+e+")") {
			faultAtMarks(t, impl.ErrVar, forms)
		}
	}
	for _, e := range []string{"1", "a", `"a"`, "X", "{}", "{X, [X | X], []}", "X ++ X", "X + X div 2", "not X", "-X", "X andalso (X orelse X)", "length(X) + abs(hd(tl(X)))", "element(1, map_get(X, X))", "is_integer(1), is_atom(1), is_tuple(1), is_list(1), is_map(1), is_binary(1), is_pid(1), is_ref(1), is_function(1)", "tuple_size(X), map_size(X), byte_size(X)"} {
		for _, forms := range filled(guards[2:3], e) {
			clean(t, strings.Replace(forms, "g()", "1", 1))
		}
	}
}

func TestOwnFunctionsInGuardsP5(t *testing.T) {
	faultAtMarks(t, impl.ErrGuard, "f(X) when §is_atom(X)§ -> 1. is_atom(X) -> true.")
	faultAtMarks(t, impl.ErrGuard, "export is_atom/1. is_atom(X) -> true. f(X) when {X, §is_atom(X)§} -> 1.")
	clean(t, "f(X) when is_atom(X) -> 1. is_atom(X, Y) -> true. is_atom() -> true.")
	clean(t, "f(X) -> is_atom(X). is_atom(X) -> true.")
}
