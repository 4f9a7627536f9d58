package tests

import (
	"strconv"
	"strings"
	"testing"

	"loop.example/g00019/impl"
)

func TestFunctionsThatAreThereP6(t *testing.T) {
	eachGives(t, [][2]string{
		{"length([])", "0"}, {"length([1, [2]])", "2"}, {"length({})", "error badarg"}, {"length(X)", "error badarg"}, {"hd([1, 2])", "1"}, {"hd([])", "error badarg"}, {"hd({1})", "error badarg"}, {"hd(<<1>>)", "error badarg"}, {"tl([1, 2])", "[2]"}, {"tl([1])", "[]"}, {"tl([])", "error badarg"}, {"tl(X)", "error badarg"},
		{"tuple_size({})", "0"}, {"tuple_size({1, {2}})", "2"}, {"tuple_size([])", "error badarg"}, {"map_size(#{})", "0"}, {"map_size(#{a => 1, b => 2})", "2"}, {"map_size({})", "error badarg"}, {"byte_size(<<>>)", "0"}, {"byte_size(<<1, 2>>)", "2"}, {"byte_size([])", "error badarg"}, {"abs(5)", "5"}, {"abs(-5)", "5"}, {"abs(0)", "0"}, {"abs(-1000000000000000)", "1000000000000000"}, {"abs(X)", "error badarg"},
		{"element(1, {X})", "a"}, {"element(2, {1, {2}})", "{2}"}, {"element(0, {1})", "error badarg"}, {"element(2, {1})", "error badarg"}, {"element(-1, {1})", "error badarg"}, {"element(1, {})", "error badarg"}, {"element(1, [1])", "error badarg"}, {"element(X, {1})", "error badarg"}, {"element({1}, 1)", "error badarg"}, {"element(1000000000000000, {1})", "error badarg"},
		{"map_get(a, #{a => 1})", "1"}, {"map_get(b, #{a => 1, b => 2, c => 3})", "2"}, {"map_get(b, #{a => 1})", "error {badkey, b}"}, {"map_get({1}, #{})", "error {badkey, {1}}"}, {"map_get(a, [])", "error badarg"}, {"map_get(#{a => 1}, a)", "error badarg"}, {"map_get([1], #{[1] => x})", "x"}, {"map_get(0, #{a => 1})", "error {badkey, 0}"}, {"map_get(<<1>>, #{a => 1})", "error {badkey, <<1>>}"},
		{"error(X)", "error a"}, {"error({1, 2})", "error {1, 2}"}, {"throw([X])", "throw [a]"}, {"exit(#{})", "exit #{}"}, {"reverse([1, [2], 3])", "[3, [2], 1]"}, {"reverse([])", "[]"}, {"reverse({})", "error badarg"}, {"tuple_to_list({1, {2}})", "[1, {2}]"}, {"tuple_to_list({})", "[]"}, {"tuple_to_list([])", "error badarg"}, {"list_to_tuple([1, [2]])", "{1, [2]}"}, {"list_to_tuple([])", "{}"}, {"list_to_tuple({})", "error badarg"},
		{"binary_to_list(<<1, 255>>)", "[1, 255]"}, {"binary_to_list(<<>>)", "[]"}, {"binary_to_list([])", "error badarg"}, {"list_to_binary([1, 255, 0])", "<<1, 255, 0>>"}, {"list_to_binary([])", "<<>>"}, {`list_to_binary("ab")`, "<<97, 98>>"}, {"list_to_binary([256])", "error badarg"}, {"list_to_binary([1, -1])", "error badarg"}, {"list_to_binary([X])", "error badarg"}, {"list_to_binary([[1]])", "error badarg"}, {"list_to_binary(<<1>>)", "error badarg"}, {"list_to_binary({})", "error badarg"},
		{"map_keys(#{b => 1, a => 2})", "[a, b]"}, {"map_keys(#{})", "[]"}, {"map_keys([])", "error badarg"}, {"map_values(#{b => 1, a => 2})", "[2, 1]"}, {"map_values(#{})", "[]"}, {"map_values(X)", "error badarg"}, {"map_remove(a, #{b => 1, a => 2})", "#{b => 1}"}, {"map_remove(b, #{c => 3, b => 1, a => 2})", "#{a => 2, c => 3}"}, {"map_remove(c, #{b => 1, a => 2})", "#{a => 2, b => 1}"}, {"map_remove(0, #{})", "#{}"}, {"map_remove(a, [])", "error badarg"}, {"map_remove(#{a => 1}, a)", "error badarg"},
		{"M = #{a => 1, b => 2}, {map_remove(a, M), M}", "{#{b => 2}, #{a => 1, b => 2}}"}, {"T = {1, 2}, {setelement(1, T, 3), T}", "{{3, 2}, {1, 2}}"}, {"L = [1, 2], {reverse(L), L}", "{[2, 1], [1, 2]}"}, {"L = [1, 2], {[0 | L], tl(L) ++ [3], tl(L) ++ [4], L}", "{[0, 1, 2], [2, 3], [2, 4], [1, 2]}"},
		{"setelement(1, {1, 2}, X)", "{a, 2}"}, {"setelement(2, {1, 2}, {X})", "{1, {a}}"}, {"setelement(0, {1}, 2)", "error badarg"}, {"setelement(2, {1}, 2)", "error badarg"}, {"setelement(-1, {1}, 2)", "error badarg"}, {"setelement(1, {}, 2)", "error badarg"}, {"setelement(1, [1], 2)", "error badarg"}, {"setelement(X, {1}, 2)", "error badarg"},
		{"integer_to_list(0)", "[48]"}, {"integer_to_list(105)", "[49, 48, 53]"}, {"integer_to_list(-7)", "[45, 55]"}, {`integer_to_list(1000000000000000) == "1000000000000000"`, "true"}, {"integer_to_list(X)", "error badarg"}, {"integer_to_list([1])", "error badarg"}, {"term_to_binary(X)", "<<131, 119, 1, 97>>"}, {"term_to_binary([1, 2])", "<<131, 107, 0, 2, 1, 2>>"}, {"binary_to_term(<<131, 119, 1, 97>>)", "a"}, {"binary_to_term(<<131>>)", "error badarg"}, {"binary_to_term(<<>>)", "error badarg"}, {"binary_to_term(<<131, 119, 1, 97, 0>>)", "error badarg"}, {"binary_to_term(X)", "error badarg"}, {"binary_to_term([131, 106])", "error badarg"},
		{"binary_to_term(term_to_binary(#{a => [1, <<2>>], {} => -3}))", "#{a => [1, <<2>>], {} => -3}"}, {"hash(X)", strconv.Itoa(hashByWords(atom("a")))}, {"hash([1, {2}])", strconv.Itoa(hashByWords(list(num(1), tuple(num(2)))))}, {"hash(-1)", strconv.Itoa(hashByWords(num(-1)))},
	}...)
}

// Each function of one argument or more, with arguments of every Kind at every place.
func TestFunctionsHeldAgainstWordsP6(t *testing.T) {
	t.Parallel()
	values := []impl.Term{num(1), num(0), num(2), num(-1), atom("a"), ref(1), fun(3, num(1)), pid(2), tuple(), tuple(num(5), atom("x")), dict(), dict(num(1), num(2), atom("a"), num(3)), list(), list(num(1), num(255)), list(atom("a")), bin(""), bin("ab"), bin("\x83a\x07")}
	for _, s := range strings.Fields(guardNames + plainNames + processNames) {
		name, number, _ := strings.Cut(s, "/")
		vars := map[string]string{"0": "", "1": "X", "2": "X, Y", "3": "X, Y, Z"}[number]
		tree := meant(t, "f(X, Y, Z) -> "+name+"("+vars+"). g(X, Y, Z) when "+guardOf(s, name, vars)+" -> yes; g(_, _, _) -> no.")
		for _, x := range values {
			for _, y := range values {
				for _, z := range []impl.Term{num(7), list(num(8))} {
					args := []impl.Term{x, y, z}
					for _, f := range []string{"f", "g"} {
						a, code := impl.Eval(tree, f, args, 100)
						if b := evalByWords(tree, f, args, 100); code != impl.OK || !sameAnswer(a, b) {
							t.Errorf("%s of %v: %s, %d used, code %d; by the words %s, %d used", s, args, shown(a), a.Used, code, shown(b), b.Used)
						}
					}
				}
			}
		}
	}
}

// guardOf is a guard that asks a function, when it may stand there.
func guardOf(s, name, vars string) string {
	if strings.Contains(guardNames, " "+s+" ") {
		return name + "(" + vars + ") /= no"
	}
	return "true"
}

func TestFunctionsOfProcessesP6(t *testing.T) {
	for _, s := range strings.Fields(processNames) {
		name, number, _ := strings.Cut(s, "/")
		args := map[string]string{"0": "", "1": "X", "2": "X, X", "3": "X, X, X"}[number]
		gives(t, name+"("+args+")", atom("a"), "error not_pure")
		gives(t, "m:"+name+"("+args+")", atom("a"), "error not_pure")
		gives(t, "(fun "+s+")("+args+")", atom("a"), "error not_pure")
		if args != "" {
			gives(t, name+"("+strings.Replace(args, "X", "throw(1)", 1)+")", atom("a"), "throw 1")
		}
	}
}

// A module's own function of the same name and number is ahead.
func TestOwnFunctionsAheadP6(t *testing.T) {
	for _, s := range strings.Fields(guardNames + plainNames + processNames) {
		name, number, _ := strings.Cut(s, "/")
		args := map[string]string{"0": "", "1": "X", "2": "X, X", "3": "X, X, X"}[number]
		own := " " + name + "(" + strings.ReplaceAll(args, "X", "_") + ") -> own."
		answers(t, "f(X) -> "+name+"("+args+")."+own, "own", atom("a"))
		answers(t, "f(X) -> (fun "+s+")("+args+")."+own, "own", atom("a"))
		answers(t, "export "+s+". f(X) -> m:"+name+"("+args+")."+own, "own", atom("a"))
		there := shown(evaluated(t, meant(t, "f(X) -> m:"+name+"("+args+")."), atom("a")))
		answers(t, "f(X) -> m:"+name+"("+args+")."+own, there, atom("a")) // it is not exported
		more := " " + name + "(" + strings.TrimPrefix(strings.ReplaceAll(args, "X", "_")+", _", ", ") + ") -> own."
		if s != "exit/1" {
			answers(t, "f(X) -> "+name+"("+args+")."+more, there, atom("a")) // one of another number is not it
		}
	}
}

func TestFunctionsAtTheirLimitsP6(t *testing.T) {
	limit := "error system_limit"
	gives(t, "length(binary_to_list(X))", bin(strings.Repeat("x", 1999)), "1999")
	gives(t, "binary_to_list(X)", bin(strings.Repeat("x", 2000)), limit)
	gives(t, "binary_to_list(X)", bin(strings.Repeat("x", 4000)), limit)
	gives(t, "byte_size(list_to_binary(X))", many(num(7), 1999), "1999")
	gives(t, "tuple_size(list_to_tuple(X))", many(num(7), 1999), "1999")
	gives(t, "length(reverse(X))", many(num(7), 1999), "1999")
	gives(t, "length(map_keys(X)) + length(map_values(X))", manyPairs(999), "1998")
	gives(t, "byte_size(term_to_binary(X))", bin(strings.Repeat("x", 3996)), "4000")
	gives(t, "term_to_binary(X)", bin(strings.Repeat("x", 3997)), limit)
	gives(t, "term_to_binary(X)", list(slicesOf(9, bin(strings.Repeat("x", 4000)))...), limit)
	gives(t, "term_to_binary(X)", list(slicesOf(10, bin(strings.Repeat("x", 4000)))...), "error badarg") // it has no TermPack
	gives(t, "length(binary_to_term(X))", bin("\x83k\x07\xcf"+strings.Repeat("x", 1999)), "1999")
	gives(t, "binary_to_term(X)", bin("\x83k\x07\xd0"+strings.Repeat("x", 2000)), "error badarg")
	gives(t, "is_integer(hash(X))", many(num(7), 1999), "true")
	gives(t, "map_get(X, #{})", nest(num(1), 98), "error "+shown(impl.Answer{V: tuple(atom("badkey"), nest(num(1), 98))}))
	gives(t, "map_get(X, #{})", nest(num(1), 99), limit)
	gives(t, "setelement(1, X, {})", tuple(slicesOf(1999, num(1))...), shown(impl.Answer{V: tuple(append([]impl.Term{tuple()}, slicesOf(1998, num(1))...)...)}))
	gives(t, "setelement(1, X, {1})", tuple(slicesOf(1999, num(1))...), limit)
}

func slicesOf(n int, x impl.Term) []impl.Term { return many(x, n).Kids }

// manyPairs is a map of n keys.
func manyPairs(n int) impl.Term {
	var kids []impl.Term
	for i := range n {
		kids = append(kids, num(i), num(-i))
	}
	return dict(kids...)
}
