package tests

import (
	"strings"
	"testing"

	"loop.example/g00019/impl"
)

// eachGives asks of rows of an expression and its answer, in which X is a.
func eachGives(t *testing.T, rows ...[2]string) {
	t.Helper()
	for _, x := range rows {
		gives(t, x[0], atom("a"), x[1])
	}
}

func TestLiteralsP6(t *testing.T) {
	eachGives(t, [][2]string{
		{"0", "0"}, {"1000000000000000", "1000000000000000"}, {"-1000000000000000", "-1000000000000000"}, {"-0", "0"}, {"ok", "ok"}, {"X", "a"}, {`""`, "[]"}, {`"ab\n\"\\"`, `[97, 98, 10, 34, 92]`},
		{"{}", "{}"}, {"{X, 1, {X}}", "{a, 1, {a}}"}, {"[]", "[]"}, {"[X, [X]]", "[a, [a]]"}, {"[1 | []]", "[1]"}, {"[1, 2 | [3, 4]]", "[1, 2, 3, 4]"}, {`["a" | "b"]`, "[[97], 98]"}, {"[1 | 2]", "error badarg"}, {"[1 | X]", "error badarg"}, {"[1 | {}]", "error badarg"}, {"[1 | <<>>]", "error badarg"}, {"[1 | #{}]", "error badarg"},
	}...)
}

func TestMapsP6(t *testing.T) {
	eachGives(t, [][2]string{
		{"#{}", "#{}"}, {"#{b => 1, a => 2, 1 => 3}", "#{1 => 3, a => 2, b => 1}"}, {"#{X => 1, a => 2}", "#{a => 2}"}, {"#{a => 1, b => 2, a => 3, b => 4, a => 5}", "#{a => 5, b => 4}"}, {"#{[1] => {}, {1} => [], <<1>> => X}", "#{{1} => [], [1] => {}, <<1>> => a}"},
		{"#{| #{}}", "#{}"}, {"#{| #{a => 1}}", "#{a => 1}"}, {"#{a => 1 | #{}}", "#{a => 1}"}, {"#{a => 1, b => 2, b => 3 | #{c => 4, b => 5, a => 6}}", "#{a => 1, b => 3, c => 4}"}, {"#{a => 1 | #{b => 2 | #{a => 3, b => 4, c => 5}}}", "#{a => 1, b => 2, c => 5}"},
		{"#{a => 1 | X}", "error {badmap, a}"}, {"#{| []}", "error {badmap, []}"}, {"#{| {1, 2}}", "error {badmap, {1, 2}}"}, {"#{a => throw(1) | throw(2)}", "throw 1"}, {"#{throw(1) => throw(2)}", "throw 1"}, {"#{a => 1, throw(1) => 1, a => throw(2)}", "throw 1"}, {"#{a => 1 | throw(2)}", "throw 2"}, {"#{a => (M = 1) | #{b => M}}", "#{a => 1, b => 1}"},
	}...)
}

func TestBinariesP6(t *testing.T) {
	eachGives(t, [][2]string{
		{"<<>>", "<<>>"}, {"<<1, 255, 256, 257>>", "<<1, 255, 0, 1>>"}, {"<<(-1)>>", "<<255>>"}, {"<<1:1, 0:3, 15:4>>", "<<143>>"}, {"<<258:16>>", "<<1, 2>>"}, {"<<258:16/little>>", "<<2, 1>>"}, {"<<258:12/little, 0:4>>", "<<2, 16>>"}, {"<<(-2):16/signed>>", "<<255, 254>>"}, {"<<7:0>>", "<<>>"}, {"<<1:49, 0:7>>", "<<0, 0, 0, 0, 0, 0, 128>>"},
		{`<<"abc">>`, "<<97, 98, 99>>"}, {`<<"ab":16>>`, "<<0, 97, 0, 98>>"}, {`<<"ab":16/little>>`, "<<97, 0, 98, 0>>"}, {`<<"ab":4>>`, "<<18>>"}, {`<<"">>`, "<<>>"}, {`<<"a":0>>`, "<<>>"}, {"<<(<<1, 2>>)/binary, 3>>", "<<1, 2, 3>>"}, {"<<(<<1, 2>>):1/binary>>", "<<1>>"}, {"<<(<<1, 2>>):0/binary>>", "<<>>"}, {"<<(<<171>>):4/binary/bits, (<<205>>):4/binary/bits>>", "<<172>>"}, {"<<(<<171, 1>>)/binary/bits>>", "<<171, 1>>"},
		{"<<(N = 4):N, 2:N>>", "<<66>>"}, {"<<1:(N = 16), 2:N>>", "<<0, 1, 0, 2>>"}, {"<<(Y = <<1>>)/binary, Y/binary>>", "<<1, 1>>"},
		{"<<X>>", "error badarg"}, {"<<(<<1>>)>>", "error badarg"}, {"<<([1])>>", "error badarg"}, {"<<1/binary>>", "error badarg"}, {"<<X/binary>>", "error badarg"}, {`<<"a"/binary>>`, "error badarg"}, {`<<""/binary>>`, "error badarg"}, {"<<(hd([[97]]))>>", "error badarg"}, {"<<1:7>>", "error badarg"}, {"<<1:1>>", "error badarg"}, {"<<1:9>>", "error badarg"}, {"<<(<<1>>):3/binary/bits>>", "error badarg"},
		{"<<1:X>>", "error badarg"}, {"<<1:(-1)>>", "error badarg"}, {"<<1:50>>", "error badarg"}, {"<<1:49>>", "error badarg"}, {"<<1:(<<8>>)>>", "error badarg"}, {`<<1:"a">>`, "error badarg"}, {`<<"":(-1)>>`, "error badarg"}, {`<<"":50>>`, "error badarg"}, {`<<"":X>>`, "error badarg"}, {"<<(<<1>>):2/binary>>", "error badarg"}, {"<<(<<1>>):9/binary/bits>>", "error badarg"}, {"<<(<<1>>):(-1)/binary>>", "error badarg"}, {"<<(<<1>>):X/binary>>", "error badarg"}, {"<<(<<>>):32000/binary>>", "error badarg"}, {"<<(<<>>):1000000000000000/binary>>", "error badarg"}, {"<<1:1000000000000000>>", "error badarg"},
		{"<<(throw(1)):(throw(2))>>", "throw 1"}, {"<<1:(throw(1)), (throw(2))>>", "throw 1"}, {"<<X, (throw(1))>>", "error badarg"}, {"<<1:X, (throw(1))>>", "error badarg"}, {"<<X:(throw(1))>>", "throw 1"}, {"<<1:3, (throw(1))>>", "throw 1"}, {"<<(<<1>>):2/binary, (throw(1))>>", "error badarg"}, {`<<"a":(throw(1))>>`, "throw 1"}, {"<<(X = 1), (throw(1))>>", "error {badmatch, 1}"},
	}...)
	uses(t, `f() -> <<"abc":(4 + 4)>>.`, 6) // f, the binary, the string, + and its two
	long := `"` + strings.Repeat("x", 200) + `"`
	gives(t, "byte_size(<<"+long+", "+long+">>)", num(0), "400") // more segments than BitBuild takes in one row
	gives(t, "<<"+strings.Repeat("1:1, ", 207)+"1:1>> == <<"+strings.Repeat("255, ", 25)+"255>>", num(0), "true")
	full := bin(strings.Repeat("x", 4000))
	gives(t, "byte_size(<<X/binary, 1:0, (<<>>)/binary>>)", full, "4000")
	gives(t, "<<X/binary, 1>>", full, "error badarg")
	gives(t, "<<X/binary, 1:1, (throw(1))>>", full, "error badarg")
	gives(t, `<<X:3999/binary, "ab", (throw(1))>>`, full, "error badarg")
	gives(t, `byte_size(<<X:3999/binary, "a">>)`, full, "4000")
	gives(t, "byte_size(<<X:4000/binary>>)", full, "4000")
	gives(t, "byte_size(<<X:32000/binary/bits>>)", full, "4000")
	gives(t, "<<X:32001/binary/bits>>", full, "error badarg")
}

func TestMatchesP6(t *testing.T) {
	eachGives(t, [][2]string{
		{"Y = 1", "1"}, {"{Y, Z} = {1, 2}, [Y, Z]", "[1, 2]"}, {"{Y, Y} = {1, 1}", "{1, 1}"}, {"{Y, Y} = {1, 2}", "error {badmatch, {1, 2}}"}, {"X = a", "a"}, {"X = b", "error {badmatch, b}"}, {"{Y} = 1", "error {badmatch, 1}"}, {"{} = []", "error {badmatch, []}"}, {"_ = 5", "5"}, {"{_, _} = {1, 2}", "{1, 2}"}, {"-5 = -5", "-5"}, {"-5 = 5", "error {badmatch, 5}"}, {"-0 = 0", "0"}, {"a = b", "error {badmatch, b}"}, {`"ab" = [97, 98]`, "[97, 98]"}, {`"ab" = "abc"`, "error {badmatch, [97, 98, 99]}"}, {`"" = []`, "[]"}, {`"a" = <<97>>`, "error {badmatch, <<97>>}"},
		{"{Y} = {1, 2}", "error {badmatch, {1, 2}}"}, {"{Y, Z} = {1}", "error {badmatch, {1}}"}, {"{} = {}", "{}"}, {"[] = []", "[]"}, {"[Y] = [1, 2]", "error {badmatch, [1, 2]}"}, {"[Y, Z] = [1]", "error {badmatch, [1]}"}, {"[Y | Z] = [1, 2, 3], {Y, Z}", "{1, [2, 3]}"}, {"[Y | Z] = [1], {Y, Z}", "{1, []}"}, {"[Y | Z] = []", "error {badmatch, []}"}, {"[Y, Z | []] = [1, 2], {Y, Z}", "{1, 2}"}, {"[Y, Z | W] = [1, 2], W", "[]"}, {"[Y, Z | W] = [1]", "error {badmatch, [1]}"}, {"[1 | 2] = [1, 2]", "error {badmatch, [1, 2]}"}, {`[1 | "a"] = [1, 97]`, "[1, 97]"}, {"[Y | Z] = {1, 2}", "error {badmatch, {1, 2}}"},
		{"#{} = #{a => 1}", "#{a => 1}"}, {"#{a => Y} = #{a => 1, b => 2}, Y", "1"}, {"#{a => Y, b => Y} = #{a => 1, b => 1}, Y", "1"}, {"#{a => Y, b => Y} = #{a => 1, b => 2}", "error {badmatch, #{a => 1, b => 2}}"}, {"#{c => _} = #{a => 1}", "error {badmatch, #{a => 1}}"}, {"#{a => 2} = #{a => 1}", "error {badmatch, #{a => 1}}"}, {"#{a => Y, a => Z} = #{a => 1}, {Y, Z}", "{1, 1}"}, {"#{} = {}", "error {badmatch, {}}"}, {`#{{a, [-1, "x"]} => Y, -2 => Z, "s" => W, [] => V} = #{{a, [-1, [120]]} => 1, -2 => 2, [115] => 3, [] => 4}, [Y, Z, W, V]`, "[1, 2, 3, 4]"},
		{"Y = (Z = 1), {Y, Z}", "{1, 1}"}, {"(Y = {Z}) = {1}, {Y, Z}", "{{1}, 1}"}, {"(Y = {Y}) = {1}", "error {badmatch, {1}}"}, {"({Y} = {1}) = {1}, Y", "1"}, {"(1 = Y) = 2", "error {badmatch, 2}"}, {"(Y = 1) = 2", "error {badmatch, 2}"}, {"Y = throw(1)", "throw 1"}, {"{Y} = {1}, {Y} = {2}", "error {badmatch, {2}}"},
	}...)
	uses(t, "f() -> {Y, [1, -1 | Z]} = 1.", 3) // patterns take no step
}

func TestBinaryPatternsP6(t *testing.T) {
	miss := "error {badmatch, <<1, 2, 3>>}"
	eachGives(t, [][2]string{
		{"<<>> = <<>>", "<<>>"}, {"<<>> = <<1, 2, 3>>", miss}, {"<<Y, Z, W>> = <<1, 2, 3>>, {Y, Z, W}", "{1, 2, 3}"}, {"<<Y, Z>> = <<1, 2, 3>>", miss}, {"<<Y, Z, W, V>> = <<1, 2, 3>>", miss}, {"<<Y:24>> = <<1, 2, 3>>, Y", "66051"}, {"<<Y:24/little>> = <<1, 2, 3>>, Y", "197121"}, {"<<Y:12, Z:12>> = <<1, 2, 3>>, {Y, Z}", "{16, 515}"}, {"<<Y:8/signed, Z/signed>> = <<255, 127>>, {Y, Z}", "{-1, 127}"}, {"<<Y:12/signed/little, _:4>> = <<255, 255>>, Y", "-1"}, {"<<Y:0, Z:0/signed, W:24>> = <<1, 2, 3>>, {Y, Z}", "{0, 0}"},
		{"<<1, Y/binary>> = <<1, 2, 3>>, Y", "<<2, 3>>"}, {"<<2, Y/binary>> = <<1, 2, 3>>", miss}, {"<<Y:2/binary, Z>> = <<1, 2, 3>>, {Y, Z}", "{<<1, 2>>, 3}"}, {"<<Y:4/binary>> = <<1, 2, 3>>", miss}, {"<<Y:0/binary, Z/binary>> = <<1, 2, 3>>, {Y, Z}", "{<<>>, <<1, 2, 3>>}"}, {"<<Y/binary>> = <<>>, Y", "<<>>"}, {"<<_:4, Y/binary>> = <<1, 2, 3>>", miss}, {"<<_:4, Y/binary/bits>> = <<1, 2, 3>>, Y", "<<16, 32, 48>>"}, {"<<_:4, Y:2/binary, Z:4>> = <<1, 2, 3>>, {Y, Z}", "{<<16, 32>>, 3}"}, {"<<Y:3/binary/bits, Z:21>> = <<255, 0, 1>>, {Y, Z}", "{<<224>>, 2031617}"}, {"<<Y:25/binary/bits>> = <<1, 2, 3>>", miss}, {"<<Y:24/binary/bits>> = <<1, 2, 3>>, Y", "<<1, 2, 3>>"},
		{"<<Y, Z:Y, W/binary>> = <<8, 7, 6>>, {Y, Z, W}", "{8, 7, <<6>>}"}, {"<<Y, Z:Y/binary, W>> = <<1, 2, 3>>, {Y, Z, W}", "{1, <<2>>, 3}"}, {"<<Y, Z:Y, W/binary>> = <<50, 7, 6, 5, 4, 3, 2, 1>>", "error {badmatch, <<50, 7, 6, 5, 4, 3, 2, 1>>}"}, {"N = -1, <<Y:N, Z/binary>> = <<1, 2, 3>>", miss}, {"N = 50, <<Y:N>> = <<1, 2, 3, 4, 5, 6, 7>>", "error {badmatch, <<1, 2, 3, 4, 5, 6, 7>>}"}, {"N = 49, <<Y:N, Z:7>> = <<0, 0, 0, 0, 0, 0, 129>>, {Y, Z}", "{1, 1}"}, {"<<Y:X, Z/binary>> = <<1, 2, 3>>", miss}, {"<<Y:X/binary, Z/binary>> = <<1, 2, 3>>", miss}, {"N = -1, <<Y:N/binary, Z/binary>> = <<1, 2, 3>>", miss}, {"N = 32000, <<Y:N/binary>> = <<1, 2, 3>>", miss}, {"<<Y:50>> = <<1, 2, 3, 4, 5, 6, 7>>", "error {badmatch, <<1, 2, 3, 4, 5, 6, 7>>}"}, {"<<Y:1000000000000000/binary>> = <<1, 2, 3>>", miss}, {"N = <<0>>, <<Y:N, Z/binary>> = <<1, 2, 3>>", miss}, {"N = 0, <<Y:N, Z/binary>> = <<1, 2, 3>>, Z", "<<1, 2, 3>>"},
		{"<<Y, Y, Z>> = <<1, 1, 3>>, Z", "3"}, {"<<Y, Y, Z>> = <<1, 2, 3>>", miss}, {"Y = 2, <<_, Y, _>> = <<1, 2, 3>>", "<<1, 2, 3>>"}, {"Y = <<2, 3>>, <<_, Y/binary>> = <<1, 2, 3>>", "<<1, 2, 3>>"}, {"Y = 8, <<Y:Y, _/binary>> = <<8, 2>>", "<<8, 2>>"}, {"Y = 8, <<Y:Y, _/binary>> = <<1, 2, 3>>", miss}, {"<<X, _/binary>> = <<1, 2, 3>>", miss}, {"<<300, _/binary>> = <<44, 2, 3>>", "error {badmatch, <<44, 2, 3>>}"}, {"<<1:4, _/binary/bits>> = <<16>>", "<<16>>"}, {"<<255/signed>> = <<255>>", "error {badmatch, <<255>>}"},
		{`<<"ab":2/binary, Y>> = <<97, 98, 1>>, Y`, "1"}, {`<<"ab":2/binary, Y>> = <<97, 99, 1>>`, "error {badmatch, <<97, 99, 1>>}"}, {`<<"ab"/binary>> = <<97, 98>>`, "<<97, 98>>"}, {`<<"ab"/binary>> = <<97, 98, 99>>`, "error {badmatch, <<97, 98, 99>>}"}, {`<<"ab":1/binary, _/binary>> = <<97, 98>>`, "error {badmatch, <<97, 98>>}"}, {`<<"":0/binary, _/binary>> = <<97>>`, "<<97>>"}, {`<<_:4, "p"/binary/bits>> = <<7>>`, "<<7>>"},
		{"<<Y>> = X", "error {badmatch, a}"}, {"<<Y>> = [1]", "error {badmatch, [1]}"}, {"<<>> = []", "error {badmatch, []}"}, {"<<_, _:16>> = <<1, 2, 3>>", "<<1, 2, 3>>"}, {"<<_/binary>> = <<1, 2, 3>>", "<<1, 2, 3>>"},
	}...)
	answers(t, "f(N, <<X:N, Y/binary>>) -> {X, Y}.", "{1, <<2, 3>>}", num(8), bin("\x01\x02\x03"))
	answers(t, "f(N, <<X:N, Y/binary>>) -> {X, Y}.", "error function_clause", atom("a"), bin("\x01\x02\x03"))
	bits := "<<" + strings.Repeat("_:1, ", 207) + "Y:1>>" // more segments than BitMatch takes in one row
	gives(t, bits+" = X, Y", bin(strings.Repeat("\x01", 26)), "1")
	gives(t, "<<_:3999/binary, Y/binary>> = X, Y", bin(strings.Repeat("x", 3999)+"y"), "<<121>>")
	gives(t, "<<_:31992/binary/bits, Y>> = X, Y", bin(strings.Repeat("x", 3999)+"y"), "121")
}

func TestOperatorsP6(t *testing.T) {
	eachGives(t, [][2]string{
		{"true andalso false", "false"}, {"true andalso 5", "5"}, {"false andalso throw(1)", "false"}, {"true orelse throw(1)", "true"}, {"false orelse 5", "5"}, {"false orelse false", "false"}, {"1 andalso throw(1)", "error {badarg, 1}"}, {"X orelse throw(1)", "error {badarg, a}"}, {"throw(1) andalso throw(2)", "throw 1"}, {"true andalso throw(2)", "throw 2"}, {"{} orelse true", "error {badarg, {}}"}, {"true andalso true andalso X", "a"}, {"true andalso (Y = 1) == 1", "true"},
		{"true and false", "false"}, {"true and true", "true"}, {"false and false", "false"}, {"false or true", "true"}, {"false or false", "false"}, {"true or false", "true"}, {"false and X", "error {badarg, a}"}, {"X and false", "error {badarg, a}"}, {"1 and 2", "error {badarg, 1}"}, {"true or 2", "error {badarg, 2}"}, {"1 or 2", "error {badarg, 1}"}, {"1 or throw(2)", "throw 2"}, {"true or [true]", "error {badarg, [true]}"},
		{"1 == 1", "true"}, {"1 == a", "false"}, {"1 =:= 1", "true"}, {"[1] =:= [2]", "false"}, {"1 /= 1", "false"}, {"1 =/= a", "true"}, {"{1} == {1}", "true"}, {"#{a => 1} == #{a => 1}", "true"}, {"1 < 2", "true"}, {"2 < 2", "false"}, {"2 =< 2", "true"}, {"3 =< 2", "false"}, {"2 > 2", "false"}, {"3 > 2", "true"}, {"2 >= 2", "true"}, {"1 >= 2", "false"}, {"1 < a", "true"}, {"{2} < {1, 1}", "true"}, {"[2] < [1, 1]", "false"}, {"<<>> > #{a => 1}", "true"}, {"{} > []", "false"}, {"throw(1) == throw(2)", "throw 1"},
		{"[1] ++ [2, 3]", "[1, 2, 3]"}, {"[] ++ []", "[]"}, {`"a" ++ [] ++ "b"`, "[97, 98]"}, {"[1] ++ 2", "error badarg"}, {"X ++ []", "error badarg"}, {"{} ++ [1]", "error badarg"}, {"1 ++ throw(2)", "throw 2"},
		{"1 + 2", "3"}, {"1 - 2", "-1"}, {"-3 * 4", "-12"}, {"7 div 2", "3"}, {"-7 div 2", "-3"}, {"7 div -2", "-3"}, {"-7 div -2", "3"}, {"7 rem 2", "1"}, {"-7 rem 2", "-1"}, {"7 rem -2", "1"}, {"-7 rem -2", "-1"}, {"0 div 5", "0"}, {"1 div 0", "error badarith"}, {"1 rem 0", "error badarith"}, {"X div 0", "error badarith"}, {"0 div X", "error badarith"}, {"1 + X", "error badarith"}, {"X + 1", "error badarith"}, {"[] * 2", "error badarith"}, {"<<1>> - 1", "error badarith"}, {"1 rem {}", "error badarith"}, {"X + throw(1)", "throw 1"}, {"throw(1) * throw(2)", "throw 1"}, {"2 + 3 * 4 - 1", "13"},
		{"-X", "error badarith"}, {"- - 5", "5"}, {"-[]", "error badarith"}, {"not true", "false"}, {"not false", "true"}, {"not 1", "error badarg"}, {"not X", "error badarg"}, {"not not true", "true"}, {"-throw(1)", "throw 1"}, {"not throw(1)", "throw 1"},
	}...)
	uses(t, "f() -> true orelse {1, 2}.", 3)
	uses(t, "f() -> false orelse {1, 2}.", 6)
	uses(t, "f() -> true and {1, 2}.", 6)
}

func TestNumbersAtTheirLimitsP6(t *testing.T) {
	eachGives(t, [][2]string{
		{"1000000000000000 + 0", "1000000000000000"}, {"1000000000000000 + 1", "error system_limit"}, {"999999999999999 + 1", "1000000000000000"}, {"-1000000000000000 - 1", "error system_limit"}, {"-1000000000000000 - 0", "-1000000000000000"}, {"0 - 1000000000000000", "-1000000000000000"}, {"- -1000000000000000", "1000000000000000"}, {"1000000000000000 - -1", "error system_limit"}, {"1000000000000000 + 1000000000000000", "error system_limit"}, {"-1000000000000000 - 1000000000000000", "error system_limit"},
		{"1000000 * 1000000000", "1000000000000000"}, {"-1000000 * 1000000000", "-1000000000000000"}, {"1000000 * -1000000000", "-1000000000000000"}, {"-1000000 * -1000000000", "1000000000000000"}, {"1000001 * 1000000000", "error system_limit"}, {"-1000001 * 1000000000", "error system_limit"}, {"31622776 * 31622776", "999999961946176"}, {"31622777 * 31622777", "error system_limit"}, {"100001 * 9999900001", "error system_limit"}, {"9999900001 * -100001", "error system_limit"}, {"1000000000000000 * 1", "1000000000000000"}, {"1000000000000000 * -1", "-1000000000000000"}, {"1000000000000000 * 2", "error system_limit"}, {"2 * -1000000000000000", "error system_limit"},
		{"1000000000000000 * 0", "0"}, {"0 * 1000000000000000", "0"}, {"0 * 0", "0"}, {"1000000000000000 * 1000000000000000", "error system_limit"}, {"-1000000000000000 * 1000000000000000", "error system_limit"}, {"4294967296 * 4294967296", "error system_limit"}, {"3037000500 * 3037000500", "error system_limit"}, {"281474976710656 * 65536", "error system_limit"}, {"6074001000 * -3037000500", "error system_limit"}, {"1000000000000000 div -1", "-1000000000000000"}, {"-1000000000000000 div 1000000000000000", "-1"}, {"-1000000000000000 rem 7", "-6"},
	}...)
}

func TestCallsP6(t *testing.T) {
	for _, x := range [][2]string{
		{"f(X) -> g(X, 1). g(X, Y) -> {X, Y}.", "{a, 1}"}, {"f(X) -> g(throw(1), throw(2)). g(_, _) -> 1.", "throw 1"}, {"f(X) -> g(1). g(2) -> 1.", "error function_clause"}, {"f(b) -> 1.", "error function_clause"}, {"f(X) when X == b -> 1.", "error function_clause"}, {"f(X) -> g(Y = 1, Y). g(Y, Y) -> Y; g(_, _) -> 0.", "1"}, {"f(X) -> g(). g() -> {}.", "{}"},
		{"f(b) -> 1; f(a) -> 2; f(_) -> 3.", "2"}, {"f(X) when X == b -> 1; f(X) when X == a, X /= a -> 2; f(X) when X == a -> 3.", "3"}, {"f({X}) -> 1; f([X]) -> 2; f(X) -> X.", "a"}, {"f(X) -> 1, 2, X.", "a"}, {"f(X) -> throw(1), throw(2).", "throw 1"}, {"f(X) -> Y = X, Z = Y, {Y, Z}.", "{a, a}"},
		{"export g/1. f(X) -> m:g(X). g(X) -> {X}.", "{a}"}, {"export f/1. f(0) -> z; f(X) -> m:f(0).", "z"}, {"f(X) -> m:hd([X]).", "a"}, {"f(X) -> m:hd([X]). hd(X) -> own.", "a"}, {"export hd/1. f(X) -> m:hd([X]). hd(X) -> own.", "own"}, {"f(X) -> hd([X]). hd(X) -> own.", "own"}, {"f(X) -> m:throw(X).", "throw a"}, {"f(X) -> x:f(X).", "error undef"}, {"f(X) -> x:hd([X]).", "error undef"}, {"f(X) -> x:y(throw(1)).", "throw 1"}, {"f(X) -> m:hd(throw(1)).", "throw 1"}, {"f(X) -> m:self().", "error not_pure"}, {"f(X) -> m:hd(X).", "error badarg"}, {"f(X) -> x:self().", "error undef"},
		{"f(X) -> F = fun hd/1, F([X]).", "a"}, {"f(X) -> (fun g/1)(X). g(X) -> {X}.", "{a}"}, {"f(X) -> (fun hd/1)(X). hd(X) -> own.", "own"}, {"f(X) -> (fun self/0)().", "error not_pure"}, {"f(X) -> (fun exit/1)(X).", "exit a"}, {"f(X) -> fun f/1 == fun f/1.", "false"}, {"f(X) -> F = fun f/1, F == F.", "true"},
		{"f(X) -> X(1).", "error {badfun, a}"}, {"f(X) -> (1)().", "error {badfun, 1}"}, {"f(X) -> X(throw(1)).", "throw 1"}, {"f(X) -> (throw(1))(throw(2)).", "throw 1"}, {"f(X) -> (fun(Y) -> Y end)(X, X) .", "error {badarity, #f7{}}"}, {"f(X) -> (fun hd/1)().", "error {badarity, #f2{}}"}, {"f(X) -> (fun hd/1)(throw(1), 2).", "throw 1"}, {"f(X) -> (fun() -> X end)(X).", "error {badarity, #f6{a}}"},
	} {
		answers(t, x[0], x[1], atom("a"))
	}
	uses(t, "f() -> g(1, 2). g(_, _) -> 3.", 6)            // f, the call and its two, g, 3
	uses(t, "f() -> hd([1]).", 5)                          // f, the call, the list, 1, hd
	uses(t, "f() -> x:y(1).", 3)                           // nothing is called
	uses(t, "export g/0. f() -> m:g(). g() -> 1.", 4)      // f, the call, g, 1
	uses(t, "f() -> m:hd([1]).", 5)                        // as hd
	uses(t, "f() -> (fun hd/1)([1]).", 6)                  // f, the call, the fun, the list, 1, hd
	uses(t, "f() -> (fun hd/1)().", 3)                     // nothing is called
	uses(t, "f() -> (fun() -> 1 end)().", 5)               // f, the call, the fun, the fun's call, 1
	uses(t, "f() -> a(1, 2). a(1, 3) -> 1.", 5)            // a call that no clause takes is one, too
	uses(t, "f() -> self().", 3)                           // as one that answers
	uses(t, "f(X) when X, is_atom(X) -> 1.", 2, num(1))    // f, X
	uses(t, "f(X) when X, is_atom(X) -> X.", 6, yes(true)) // f, X, the call, X, is_atom, X
}

func TestFunsP6(t *testing.T) {
	for _, x := range [][2]string{
		{"f(X) -> fun() -> X end.", "#f6{a}"}, {"f(X) -> fun() -> 1 end.", "#f6{}"}, {"f(X) -> fun(Y) -> Y end.", "#f7{}"}, {"f(X) -> Z = 1, Y = 2, fun(W) -> {Z, X, Y, X, W} end.", "#f18{a, 2, 1}"}, {"f(X) -> B = 1, A = 2, C = 3, fun() -> fun(Y) when C -> {B, A} end end.", "#f23{2, 1, 3}"}, {"f(X) -> fun(X) -> 1 end.", "#f7{a}"}, {"f(X) -> N = 8, fun(<<Y:N>>) -> Y end.", "#f13{8}"}, {"f(X) -> fun() -> [X || Y <- []] end.", "#f10{a}"},
		{"f(X) -> fun g/0. g() -> 1.", "#f2{}"}, {"f(X) -> {1, fun hd/1}.", "{1, #f3{}}"}, {"f(X) -> (fun(X) -> 1 end)(a).", "1"}, {"f(X) -> (fun(X) -> 1 end)(b).", "error function_clause"}, {"f(X) -> (fun(X, Y) -> 1; (Y, X) -> 2 end)(b, a).", "2"}, {"f(X) -> (fun(Y) when Y > X -> 1; (_) -> 2 end)(b).", "1"}, {"f(X) -> F = fun(G, N) when N > 0 -> [N | G(G, N - 1)]; (_, _) -> [] end, F(F, 3).", "[3, 2, 1]"},
		{"f(X) -> F = fun() -> Y = X, Y end, Y = 1, {F(), Y}.", "{a, 1}"}, {"f(X) -> F = fun(Y) -> fun(Z) -> {X, Y, Z} end end, (F(1))(2).", "{a, 1, 2}"}, {"f(X) -> F = fun() -> throw(X) end, F().", "throw a"}, {"f(X) -> [F() || F <- [fun() -> X end, fun() -> {X} end]].", "[a, {a}]"}, {"f(X) -> F = fun(Y) -> g(Y) end, F(X). g(X) -> {X}.", "{a}"}, {"f(X) -> (fun(_) -> X end)(1).", "a"},
	} {
		answers(t, x[0], x[1], atom("a"))
	}
	// Funs that come in: they count when the module could have made them.
	call := "f(F) -> F(1). g(X, Y) -> fun(Z) -> {Y, Z, X} end. h() -> fun g/2, fun(_) -> 2 end, fun hd/1."
	tree := meant(t, call)
	made, two, head := placeOf(t, tree, impl.NdFun, 0), placeOf(t, tree, impl.NdFun, 1), placeOf(t, tree, impl.NdRefer, 1)
	for _, x := range []struct {
		f    impl.Term
		want string
	}{
		{fun(made, atom("a"), atom("b")), "{b, 1, a}"}, {fun(two), "2"}, {fun(head), "error badarg"},
		{fun(made), "badfun"}, {fun(made, num(1)), "badfun"}, {fun(made, num(1), num(2), num(3)), "badfun"}, {fun(two, num(1)), "badfun"}, {fun(head, num(1)), "badfun"}, {fun(made-1, num(1), num(2)), "badfun"}, {fun(0), "badfun"}, {fun(len(tree) - 1), "badfun"}, {fun(len(tree)), "badfun"}, {fun(impl.MaxInt), "badfun"},
		{fun(placeOf(t, tree, impl.NdRefer, 0)), "badarity"}, {num(made), "badfun"}, {pid(two), "badfun"}, {tuple(fun(two)), "badfun"},
	} {
		want := x.want
		if strings.HasPrefix(want, "bad") {
			s, _ := impl.TermShow(x.f)
			want = "error {" + want + ", " + s + "}"
		}
		answers(t, call, want, x.f)
	}
}
