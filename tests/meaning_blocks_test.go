package tests

import (
	"strings"
	"testing"

	"loop.example/g00019/impl"
)

func TestCasesP6(t *testing.T) {
	eachGives(t, [][2]string{
		{"case X of a -> 1; _ -> 2 end", "1"}, {"case X of b -> 1; _ -> 2 end", "2"}, {"case X of b -> 1 end", "error {case_clause, a}"}, {"case {1, 2} of {Y, Y} -> 1; {Y, _} when Y > 1 -> 2; {Y, Z} -> [Y, Z] end", "[1, 2]"}, {"case throw(1) of _ -> throw(2) end", "throw 1"}, {"case X of _ -> 1, throw(2) end", "throw 2"}, {"case (Y = 1) of Z when Y == Z -> {Y, Z} end", "{1, 1}"}, {"case 1 of X -> 1; Y -> {Y} end", "{1}"}, {"case X of Y when Y -> 1; Y when Y == a -> 2 end", "2"}, {"case {1, {2}} of {Y, Z} when Z == 1 -> Y; {Z, Y} -> {Y, Z} end", "{{2}, 1}"},
		{"begin 1, X end", "a"}, {"begin Y = 1, {Y, begin Y end} end", "{1, 1}"}, {"begin throw(1), 2 end", "throw 1"},
	}...)
	uses(t, "f() -> case 1 of 1 -> 2 end.", 4)
	uses(t, "f() -> begin 1, 2 end.", 4)
}

// A guard that goes up with an error is false; what stands behind the first that is not true is not worked out.
func TestGuardsP6(t *testing.T) {
	for guard, want := range map[string]string{
		"true": "yes", "false": "no", "a": "no", "1": "no", "X": "no", "true, true": "yes", "true, false": "no", "false, true": "no", "true, a": "no", "[true]": "no", "X == a": "yes", "{true}": "no",
		"hd(X)": "no", "hd([])": "no", "1 div 0 == 0": "no", "X + 1 > 0": "no", "not X": "no", "-X == 1": "no", "X andalso true": "no", "X and true": "no", "[1 | X] == []": "no", "X ++ [] == []": "no", "element(2, {1}) == 1": "no", "map_get(a, X)": "no", "hd([true])": "yes", "1000000000000000 + 1 > 0": "no", "1000000000 * 1000000000 > 0": "no", "abs(X) == 1 orelse true": "no", "true orelse hd(X)": "yes", "false andalso hd(X)": "no", "(false andalso hd(X)) == false": "yes", "not (X == b), is_atom(X)": "yes", "length([X]) == 1": "yes",
	} {
		answers(t, "f(X) when "+guard+" -> yes; f(_) -> no.", want, atom("a"))
		answers(t, "f(X) -> case 1 of 1 when "+guard+" -> yes; _ -> no end.", want, atom("a"))
		answers(t, "f(X) -> (fun(1) when "+guard+" -> yes; (_) -> no end)(1).", want, atom("a"))
		answers(t, "f(X) -> try throw(1) catch throw:1 when "+guard+" -> yes; _:_ -> no end.", want, atom("a"))
	}
	answers(t, "f(X) when {X, X} == 1 -> yes; f(_) -> no.", "no", many(num(1), 1500))
	answers(t, "f(X) when {X, X} /= 1 -> yes; f(_) -> no.", "no", many(num(1), 1500))
	answers(t, "f(X) when {X} /= 1 -> yes; f(_) -> no.", "yes", nest(num(1), 98))
	answers(t, "f(X) when {X} /= 1 -> yes; f(_) -> no.", "no", nest(num(1), 99))
	uses(t, "f() when true, false, true, true -> 1; f() -> 2.", 4)
	uses(t, "f() when hd(1), true -> 1; f() -> 2.", 5)
	uses(t, "f() when hd(1) + hd(2), true -> 1; f() -> 2.", 6)
}

func TestTriesP6(t *testing.T) {
	eachGives(t, [][2]string{
		{"try 1, 2 catch _:_ -> 3 end", "2"}, {"try throw(1) catch throw:Y -> {Y} end", "{1}"}, {"try error(1) catch error:Y -> {Y} end", "{1}"}, {"try exit(1) catch exit:Y -> {Y} end", "{1}"}, {"try throw(1) catch error:Y -> {Y} end", "throw 1"}, {"try error(1) catch exit:Y -> {Y} end", "error 1"}, {"try exit(1) catch throw:Y -> {Y} end", "exit 1"}, {"try throw(1) catch C:Y -> {C, Y} end", "{throw, 1}"}, {"try error(1) catch C:Y -> {C, Y} end", "{error, 1}"}, {"try exit(1) catch C:Y -> {C, Y} end", "{exit, 1}"},
		{"try throw(1) catch X:_ -> 1 end", "throw 1"}, {"Y = throw, try throw(1) catch Y:_ -> 2 end", "2"}, {"try throw(1) catch C:C -> 2; _:1 -> 3 end", "3"}, {"try throw(throw) catch C:C -> 2 end", "2"}, {"try throw(1) catch value:_ -> 1; fuel:_ -> 1; other:_ -> 2 end", "throw 1"}, {"try throw({1, 2}) catch throw:{Y, Y} -> 1; throw:{Y, Z} when Z > 2 -> 2; error:_ -> 3; _:{Z, Y} -> {Y, Z} end", "{2, 1}"},
		{"try 1 + a catch error:badarith -> ok end", "ok"}, {"try X = 1 catch error:{badmatch, Y} -> Y end", "1"}, {"try x:y() catch error:undef -> 1 end", "1"}, {"try 1000000000000000 + 1 catch error:system_limit -> 1 end", "1"}, {"try self() catch error:not_pure -> 1 end", "1"}, {"try X() catch error:{badfun, Y} -> Y end", "a"}, {"try case 1 of 2 -> 1 end catch error:{case_clause, Y} -> Y end", "1"}, {"try 1 ! 2 catch error:not_pure -> 1 end", "1"},
		{"try throw(1) catch throw:_ -> throw(2) end", "throw 2"}, {"try throw(1) catch throw:_ -> error(2); error:_ -> 3 end", "error 2"}, {"try try throw(1) catch error:_ -> 2 end catch throw:Y -> {Y} end", "{1}"}, {"try try throw(1) catch throw:_ -> exit(2) end catch exit:Y -> {Y} end", "{2}"}, {"try Y = 1, throw(Y) catch _:Y -> {Y} end", "{1}"}, {"{try throw(1) catch _:_ -> Y = 2 end, Y = 3}", "{2, 3}"}, {"Z = 1, try Y = 2, throw(Y) catch _:W -> {Z, W, X} end", "{1, 2, a}"},
		{"try 1 catch _:_ -> 2 after 3 end", "1"}, {"try throw(1) catch _:_ -> 2 after 3 end", "2"}, {"try throw(1) catch error:_ -> 2 after 3 end", "throw 1"}, {"try 1 catch _:_ -> 2 after throw(3) end", "throw 3"}, {"try throw(1) catch _:_ -> 2 after exit(3) end", "exit 3"}, {"try throw(1) catch error:_ -> 2 after error(3) end", "error 3"}, {"try throw(1) catch _:_ -> throw(2) after 3 end", "throw 2"}, {"try throw(1) catch _:_ -> throw(2) after throw(3), throw(4) end", "throw 3"}, {"try throw(1) catch _:Y when Y == 2 -> 1 after X = b end", "error {badmatch, b}"}, {"try 1 catch _:_ -> 2 after Y = 5, Y end", "1"},
		{"try try throw(1) catch error:_ -> 1 after throw(2) end catch _:Y -> {Y} after 4 end", "{2}"}, {"try try 1 catch _:_ -> 2 after throw(3) end catch _:Y -> {Y} end", "{3}"}, {"try {throw(1), throw(2)} catch _:Y -> Y end", "1"}, {"[try throw(Y) catch _:Z -> {Z} end || Y <- [1, 2]]", "[{1}, {2}]"}, {"try throw([throw(Y) || Y <- [1, 2]]) catch _:Z -> {Z} end", "{1}"},
	}...)
	uses(t, "f() -> try 1 catch _:_ -> 2 after 3 end.", 4)
	uses(t, "f() -> try throw(1) catch _:_ -> 2 after 3 end.", 7)
	uses(t, "f() -> try throw(1) catch _:X when X == 1, X == 2 -> 2; _:_ -> 3 after 4, 5 end.", 14)
}

// What the fuel's end passes is not taken, and no after body is begun.
func TestTriesOutOfFuelP6(t *testing.T) {
	tree := meant(t, "f() -> try f() catch _:_ -> 1 after throw(2) end. g() -> f().")
	for _, fuel := range []int{0, 1, 2, 3, 4, 100, 101, 102, 1000} {
		if a, code := impl.Eval(tree, "f", nil, fuel); code != impl.OK || !sameAnswer(a, impl.Answer{Class: impl.AnFuel, Used: fuel}) {
			t.Error(fuel, a, code)
		}
	}
}

func TestSendsAndReceivesP6(t *testing.T) {
	eachGives(t, [][2]string{
		{"1 ! 2", "error not_pure"}, {"X ! X ! X", "error not_pure"}, {"throw(1) ! throw(2)", "throw 1"}, {"1 ! throw(2)", "throw 2"}, {"{1 ! 2, throw(1)}", "error not_pure"},
		{"receive end", "error not_pure"}, {"receive _ -> throw(1) end", "error not_pure"}, {"receive after 5 -> throw(1) end", "error not_pure"}, {"receive _ -> throw(1) after throw(2) -> throw(3) end", "throw 2"}, {"receive after X -> throw(1) end", "error not_pure"}, {"receive after X + 1 -> throw(1) end", "error badarith"},
	}...)
	uses(t, "f() -> 1 ! 2.", 4)
	uses(t, "f() -> receive X -> X end.", 2)
	uses(t, "f() -> receive X -> X after {1} -> 2 end.", 4)
}

func TestListComprehensionsP6(t *testing.T) {
	eachGives(t, [][2]string{
		{"[{Y} || Y <- [1, 2, 3]]", "[{1}, {2}, {3}]"}, {"[Y || Y <- []]", "[]"}, {"[{Y, Z} || Y <- [1, 2], Z <- [3, 4]]", "[{1, 3}, {1, 4}, {2, 3}, {2, 4}]"}, {"[{Y, Z} || Y <- [1, 2], Z <- [Y, Y + 1]]", "[{1, 1}, {1, 2}, {2, 2}, {2, 3}]"}, {"[Y || {Y, 1} <- [{1, 1}, {2, 2}, a, {3, 1}]]", "[1, 3]"}, {"[Y || X <- [a, b, a], Y <- [1]]", "[1, 1]"}, {"[Y || {Y, Y} <- [{1, 2}, {3, 3}]]", "[3]"}, {"[Y || [Y | _] <- [[1], [], [2, 3]]]", "[1, 2]"}, {"[X || _ <- [1, 2]]", "[a, a]"},
		{"[Y || Y <- [1, 2, 3], Y > 1]", "[2, 3]"}, {"[Y || Y <- [1, 2, 3], Y > 1, Y < 3]", "[2]"}, {"[1 || true]", "[1]"}, {"[1 || false]", "[]"}, {"[throw(1) || false]", "[]"}, {"[1 || X]", "error {bad_filter, a}"}, {"[1 || 1]", "error {bad_filter, 1}"}, {"[1 || Y <- [true, 2], Y]", "error {bad_filter, 2}"}, {"[Y || true, Y <- [1]]", "[1]"}, {"[Z || Y <- [1, 2], (Z = Y) > 1]", "[2]"}, {"[Z || (Z = true), Z]", "[true]"}, {"[{Y, Z} || Y <- [1, 2], begin Z = Y, true end, Z <- [Y]]", "[{1, 1}, {2, 2}]"},
		{"[Y || Y <- X]", "error {bad_generator, a}"}, {"[Y || Y <- {1}]", "error {bad_generator, {1}}"}, {"[Y || Y <- <<1>>]", "error {bad_generator, <<1>>}"}, {"[Y || Y <- #{}]", "error {bad_generator, #{}}"}, {"[Z || Y <- [[1], 2], Z <- Y]", "error {bad_generator, 2}"}, {"[Z || Y <- [[1], [2, 3]], Z <- Y]", "[1, 2, 3]"},
		{"[throw(1) || Y <- throw(2)]", "throw 2"}, {"[throw(1) || Y <- [1], throw(2)]", "throw 2"}, {"[throw(Y) || Y <- [1, 2]]", "throw 1"}, {"[1 || Y <- [1, 2], throw(Y)]", "throw 1"}, {"[1 || _ <- [], throw(1)]", "[]"}, {"[Z || Y <- [1, 2], Z <- throw(Y)]", "throw 1"}, {"[Y || Y <- (L = [1, 2]), _ <- L]", "[1, 1, 2, 2]"}, {"[[Z || Z <- Y] || Y <- [[1], [2]]]", "[[1], [2]]"}, {"[fun() -> Y end() || Y <- [1, 2]]", "[1, 2]"},
	}...)
	uses(t, "f() -> [1 || true].", 4)
	uses(t, "f() -> [1 || _ <- []].", 4)                    // f, the comprehension, [], asked once
	uses(t, "f() -> [1 || 1 <- [1, 2]].", 9)                // f, it, [1, 2] and its two, asked three times, 1 once
	uses(t, "f() -> [1 || _ <- [1], _ <- [2]].", 11)        // f, it, [1], 1, asked, [2], 2, asked, 1, asked, asked
	uses(t, "f() -> [1 || _ <- [1, 2], false].", 10)        // f, it, three of the list, three times asked, twice false
	uses(t, "f() -> [throw(1) || _ <- [1], _ <- [2]].", 11) // f, it, [1], 1, asked, [2], 2, asked, the call, 1, throw
}

func TestBinaryComprehensionsP6(t *testing.T) {
	eachGives(t, [][2]string{
		{"<<(Y + 1) || <<Y>> <- <<1, 2, 3>>>>", "<<2, 3, 4>>"}, {"<<Y || <<Y>> <- <<>>>>", "<<>>"}, {"<<Y:4 || <<Y:4>> <- <<18, 52>>>>", "<<18, 52>>"}, {"<<Y || <<Y:4>> <- <<18, 52>>>>", "<<1, 2, 3, 4>>"}, {"<<Y:4 || <<Y>> <- <<1, 2>>>>", "<<18>>"}, {"<<Y:4 || <<Y>> <- <<1, 2, 3>>>>", "error badarg"}, {"<<Y || <<Y, 1>> <- <<7, 1, 8, 1, 9, 2, 10, 1>>>>", "<<7, 8>>"}, {"<<Y || <<Y:16>> <- <<0, 1, 0, 2, 3>>>>", "<<1, 2>>"}, {"<<Y || <<Y:3>> <- <<255>>>>", "<<7, 7>>"}, {"<<Y || <<Y/signed>> <- <<255, 1>>, Y > 0>>", "<<1>>"},
		{"<<Y/binary || <<Y/binary>> <- <<1, 2, 3>>>>", "<<1, 2, 3>>"}, {"<<Y/binary || <<_, Y/binary>> <- <<1, 2, 3>>>>", "<<2, 3>>"}, {"<<Y/binary/bits || <<_:4, Y/binary/bits>> <- <<18, 52>>>>", "<<35, 64>>"}, {"<<1 || <<_:4, _/binary>> <- <<1, 2>>>>", "<<>>"}, {"<<Y/binary || <<N, Y:N/binary>> <- <<1, 7, 2, 8, 9, 5, 1>>>>", "<<7, 8, 9>>"}, {"<<1 || <<>> <- <<1, 2>>>>", "<<>>"}, {"<<1 || <<_:0>> <- <<1, 2>>>>", "<<>>"}, {"<<1 || <<_:0/binary>> <- <<1, 2>>>>", "<<>>"}, {"<<1 || <<>> <- <<>>>>", "<<>>"}, {"<<N || <<N, _:N>> <- <<8, 1, 0, 16, 1, 1>>>>", "<<8, 0, 16>>"},
		{`<<Y || <<Y, "ab":2/binary>> <- <<1, 97, 98, 2, 97, 98, 3, 97, 99>>>>`, "<<1, 2>>"}, {"Z = 1, <<Y || <<Z, Y>> <- <<1, 2, 1, 3, 2, 4>>>>", "<<2, 3>>"}, {"<<Y, Z>> = <<1, 2>>, <<W || <<W, Y, Z>> <- <<7, 1, 2, 8, 1, 2, 9, 2, 1>>>>", "<<7, 8>>"},
		{"<<(Y + Z) || <<Y>> <- <<1, 2>>, <<Z>> <- <<10, 20>>>>", "<<11, 21, 12, 22>>"}, {"<<Z || <<Y>> <- <<1, 2>>, <<Z>> <- <<Y, (Y + 1)>>>>", "<<1, 2, 2, 3>>"}, {"<<Y || <<Y>> <- <<1, 2, 3>>, Y /= 2>>", "<<1, 3>>"}, {"<<1 || X>>", "error {bad_filter, a}"}, {`<<"ab" || true>>`, "<<97, 98>>"}, {`<<"ab":4 || <<_>> <- <<1, 2>>>>`, "<<18, 18>>"}, {"<<1 || true>>", "<<1>>"}, {"<<1:7 || true>>", "error badarg"}, {"<<(<<1, 2>>):1/binary || true>>", "<<1>>"}, {"<<258:16/little || <<_>> <- <<1, 2>>>>", "<<2, 1, 2, 1>>"},
		{"<<1 || <<_>> <- X>>", "error {bad_generator, a}"}, {"<<1 || <<_>> <- [1]>>", "error {bad_generator, [1]}"}, {"<<X || <<_>> <- <<1>>>>", "error badarg"}, {"<<X || <<_>> <- <<>>>>", "<<>>"}, {"<<1:X || true>>", "error badarg"}, {"<<1:50 || true>>", "error badarg"}, {"<<1:(Y = 8) || true>>", "<<1>>"}, {"<<(Y = 8):Y || true>>", "<<8>>"},
		{"<<(throw(1)) || <<_>> <- throw(2)>>", "throw 2"}, {"<<(throw(1)):(throw(2)) || <<_>> <- <<1>>>>", "throw 1"}, {"<<1:(throw(2)) || <<_>> <- <<1>>>>", "throw 2"}, {"<<X || <<_>> <- <<1>>, throw(1)>>", "throw 1"}, {"<<(throw(Y)) || <<Y>> <- <<1, 2>>>>", "throw 1"}, {"<<(1 div (2 - Y)):7 || <<Y>> <- <<1, 2>>>>", "error badarith"}, {"[Y || Y <- [<<Z || <<Z>> <- <<1>>>>]]", "[<<1>>]"},
	}...)
	uses(t, "f() -> <<1 || <<_>> <- <<>>>>.", 4)                // f, the comprehension, <<>>, asked once
	uses(t, "f() -> <<1 || <<_>> <- <<1, 2>>>>.", 10)           // f, it, three of the binary, asked three times, twice 1
	uses(t, "f() -> <<1 || <<1>> <- <<1, 2>>>>.", 8)            // the second piece does not fit: nothing is asked behind it
	uses(t, "f() -> <<1 || <<>> <- <<1, 2>>>>.", 6)             // what matches no bits is the end
	uses(t, "f() -> <<1:(8) || <<_:16>> <- <<1, 2, 3>>>>.", 10) // f, it, four of the binary, asked, 1, 8, asked
	full := bin(strings.Repeat("x", 4000))
	gives(t, "byte_size(<<X/binary || true>>)", full, "4000")
	gives(t, "<<X/binary || <<_>> <- <<1, 2>>>>", full, "error badarg")
	gives(t, "<<X/binary || <<Y>> <- <<1, 2>>, Y < 2 orelse throw(Y)>>", full, "throw 2")
	gives(t, "byte_size(<<X:16000/binary/bits || <<_>> <- <<1, 2>>>>)", full, "4000")
	gives(t, "<<X:16001/binary/bits || <<_>> <- <<1, 2>>>>", full, "error badarg")
	gives(t, "byte_size(<<Y || <<Y:8>> <- X>>)", full, "4000")
	gives(t, "<<Y:9 || <<Y:8>> <- X, Y == 120 orelse throw(1)>>", full, "error badarg")
}

// Terms that are made are right, or the error is system_limit.
func TestTermsAtTheirLimitsP6(t *testing.T) {
	row, deep := many(num(7), 1998), nest(num(7), 98) // 1999 terms; 99 deep
	limit := "error system_limit"
	fits := func(e string, x impl.Term) {
		t.Helper()
		tree := meant(t, "f(X) -> "+e+".")
		if a := evaluated(t, tree, x); a.Class != impl.AnValue {
			t.Errorf("%s answers %s", e, shown(a))
		}
	}
	for _, e := range []string{"{X}", "[X]", "{}, {X}"} {
		fits(e, row)
		fits(e, deep)
		gives(t, e, nest(deep, 1), limit)
		gives(t, e, many(num(7), 1999), limit)
	}
	for _, x := range []struct{ fit, none string }{
		{"X", "{X, 1}"}, {"[1 | X]", "[1, 2 | X]"}, {"[1] ++ X", "X ++ [1, 2]"}, {"[Y || Y <- X]", "[Y || Y <- [1, 2 | X]]"}, {"#{| #{}}", "#{a => X}"}, {"fun() -> X end", "{fun() -> X end}"}, {"setelement(1, {1}, X)", "setelement(1, {1, 2}, X)"}, {"[[] | X]", "[[1] | X]"}, {"[X || true]", "[X || _ <- [1, 2]]"}, {"tuple_to_list({X})", "[[X]]"},
	} {
		fits(x.fit, row)
		gives(t, x.none, row, limit)
	}
	for _, x := range []struct{ fit, none string }{
		{"{X}", "{{X}}"}, {"#{a => X}", "#{a => {X}}"}, {"#{X => a}", "#{{X} => a}"}, {"[1 | X]", "[{X}]"}, {"X ++ X", "[[X]]"}, {"[X || true]", "[{X} || true]"}, {"fun() -> X end", "{fun() -> X end}"}, {"setelement(1, {1}, X)", "setelement(1, {1}, {X})"},
	} {
		fits(x.fit, deep)
		gives(t, x.none, deep, limit)
	}
	gives(t, "fun() -> X end", many(num(7), 1999), limit)
	gives(t, "fun() -> X end", nest(deep, 1), limit)
	// What is made goes up as soon as it is too much.
	gives(t, "[X || Y <- [1, 2, 3], Y < 3 orelse throw(3)]", many(num(7), 999), "error system_limit")
	gives(t, "[X || Y <- [1, 2, 3], Y < 3 orelse throw(3)]", many(num(7), 998), "throw 3")
	gives(t, "[Y || Y <- [{X}, {1}], Y == {X} orelse throw(2)]", deep, limit)
	gives(t, "{{X}, throw(1)}", nest(deep, 1), limit)
	// What tells a value in an error is made, too.
	for _, e := range []string{"[] = X", "case X of [] -> 1 end", "X()", "[1 || X]", "[1 || _ <- {X}]", "#{| X}", "X andalso true", "X and true", "map_get(X, #{})", "(fun() -> 1 end)(X, 1)"} {
		tree := meant(t, "f(X) -> "+e+".")
		for _, x := range []impl.Term{many(num(7), 1996), many(num(7), 1997), many(num(7), 1998), many(num(7), 1999), nest(num(7), 97), nest(num(7), 98), nest(num(7), 99)} {
			a := evaluated(t, tree, x)
			if b := evalByWords(tree, "f", []impl.Term{x}, impl.MaxFuel); !sameAnswer(a, b) {
				t.Errorf("%s answers %s, not %s", e, shown(a), shown(b))
			}
		}
	}
	gives(t, "[] = X", many(num(7), 1998), limit)
	gives(t, "throw(X)", many(num(7), 1999), "throw "+shown(impl.Answer{V: many(num(7), 1999)}))
	gives(t, "try [] = X catch error:{badmatch, _} -> 1; error:Y -> Y end", many(num(7), 1998), "system_limit")
	gives(t, "try [] = X catch error:{badmatch, _} -> 1; error:Y -> Y end", many(num(7), 1997), "1")
	// A pattern makes nothing: it may take a term that is as large as may be apart.
	gives(t, "[Y | Z] = X, length(Z)", many(num(7), 1999), "1998")
}
