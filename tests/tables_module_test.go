package tests

import (
	"slices"
	"strings"
	"testing"

	"loop.example/g00019/impl"
)

// moduleIs asks for the clauses of a question's module, all but the last one.
func moduleIs(t *testing.T, spec string, clauses ...string) {
	t.Helper()
	want := "module spec.\nexport m/1.\n" + strings.Join(append(clauses, "m(_) -> no."), "; ")
	if text, code := specModule(t, term(spec)); text != want || code != impl.OK {
		t.Errorf("%s\nbecomes %q, code %d, and not\n%q", spec, text, code, want)
	}
	if _, is := moduleOfSpec(t, term(spec)); !is {
		t.Error(spec)
	}
}

func headIs(t *testing.T, head, text string) {
	t.Helper()
	moduleIs(t, oneClause(head, "[]", "1"), "m((V0 = "+text+")) -> {yes, 1}")
}

func condIs(t *testing.T, cond, text string) {
	t.Helper()
	moduleIs(t, oneClause("{{v, 1}, {v, 20}}", "["+cond+"]", "1"), "m((V0 = {V1, V20})) when "+text+" -> {yes, 1}")
}

func bodyIs(t *testing.T, body, text string) {
	t.Helper()
	moduleIs(t, oneClause("{{v, 1}, {v, 20}}", "[]", body), "m((V0 = {V1, V20})) -> {yes, "+text+"}")
}

func TestModulesOfHeadsP12(t *testing.T) {
	headIs(t, "{}", "{}")
	headIs(t, "{a}", "{a}")
	headIs(t, "{0, 1, -1}", "{0, 1, (- 1)}")
	headIs(t, "{1000000000000000, -1000000000000000}", "{1000000000000000, (- 1000000000000000)}")
	headIs(t, "{[], {}, [[]], {{}}}", "{[], {}, [[]], {{}}}")
	headIs(t, "{[a, {1, -2}], {[b]}}", "{[a, {1, (- 2)}], {[b]}}")
	headIs(t, "{{v, 0}, {v, 1}, {v, 9}, {v, 20}}", "{_, V1, V9, V20}")
	headIs(t, "{{v, 1}, [{v, 1}, {v, 0}, {v, 0}]}", "{V1, [V1, _, _]}")
	headIs(t, "{{v, 21}, {v, -1}, {v}, {v, a}, {v, 1, 2}}", "{{v, 21}, {v, (- 1)}, {v}, {v, a}, {v, 1, 2}}")
	headIs(t, "{v, 21}", "{v, 21}")
	headIs(t, "{v, {v, 2}}", "{v, V2}")
	headIs(t, "{true, no, m, spec, v, row}", "{true, no, m, spec, v, row}")
}

func TestModulesOfConditionsP12(t *testing.T) {
	condIs(t, "true", "true")
	condIs(t, "a", "a")
	condIs(t, "7", "7")
	condIs(t, "-7", "(- 7)")
	condIs(t, "{v, 1}", "V1")
	condIs(t, "true, {v, 20}, a", "true, V20, a")
	for op, said := range map[string]string{"eq": "==", "ne": "/=", "lt": "<", "le": "=<", "gt": ">", "ge": ">=", "plus": "+", "minus": "-", "times": "*", "both": "and", "either": "or"} {
		condIs(t, "{"+op+", {v, 1}, -3}", "(V1 "+said+" (- 3))")
		condIs(t, "{"+op+", a, {"+op+", 1, 2}}", "(a "+said+" (1 "+said+" 2))")
		condIs(t, "{"+op+", {"+op+", 1, 2}, a}", "((1 "+said+" 2) "+said+" a)")
	}
	condIs(t, "{elem, 1, {v, 20}}", "element(1, V20)")
	condIs(t, "{elem, {elem, -1, a}, {elem, 2, b}}", "element(element((- 1), a), element(2, b))")
	condIs(t, "{no, {v, 1}}", "(not V1)")
	condIs(t, "{no, {no, true}}", "(not (not true))")
	for op, said := range map[string]string{"is_integer": "is_integer", "is_atom": "is_atom", "is_tuple": "is_tuple", "is_list": "is_list", "len": "length", "width": "tuple_size", "first": "hd", "rest": "tl", "amount": "abs"} {
		condIs(t, "{"+op+", {v, 1}}", said+"(V1)")
		condIs(t, "{"+op+", {"+op+", -1}}", said+"("+said+"((- 1)))")
	}
	condIs(t, "{both, {no, {eq, {len, {v, 1}}, 0}}, {is_atom, {first, {v, 1}}}}, {gt, 1, 0}", "((not (length(V1) == 0)) and is_atom(hd(V1))), (1 > 0)")
}

func TestModulesOfBodiesP12(t *testing.T) {
	bodyIs(t, "true", "true")
	bodyIs(t, "0", "0")
	bodyIs(t, "-12", "(- 12)")
	bodyIs(t, "{row}", "V0")
	bodyIs(t, "{v, 1}", "V1")
	bodyIs(t, "{v, 20}", "V20")
	bodyIs(t, "[]", "[]")
	bodyIs(t, "{tup, []}", "{}")
	bodyIs(t, "[1, -1, a, {v, 1}, {row}]", "[1, (- 1), a, V1, V0]")
	bodyIs(t, "{tup, [1, -1, a, {v, 1}, {row}]}", "{1, (- 1), a, V1, V0}")
	bodyIs(t, "{tup, [{tup, [[]]}, [{tup, []}], [[{row}]]]}", "{{[]}, [{}], [[V0]]}")
	bodyIs(t, "[tup, row, v, [1]]", "[tup, row, v, [1]]")
}

func TestModulesOfClausesP12(t *testing.T) {
	moduleIs(t, "[{{a}, [], 1}, {{{v, 1}}, [{v, 1}], {v, 1}}, {{b, {v, 0}}, [true, false], {row}}]",
		"m((V0 = {a})) -> {yes, 1}", "m((V0 = {V1})) when V1 -> {yes, V1}", "m((V0 = {b, _})) when true, false -> {yes, V0}")
	clause := "m((V0 = {a})) -> {yes, 1}"
	moduleIs(t, "["+strings.Repeat("{{a}, [], 1}, ", 19)+"{{a}, [], 1}]", slices.Repeat([]string{clause}, 20)...)
}

// padded is a question whose module has so many bytes, not very many nodes.
func padded(t *testing.T, bytes int) impl.Term {
	t.Helper()
	var names []impl.Term
	spec := func() impl.Term { return list(tuple(tuple(names...), list(), num(1))) }
	length := func() int {
		text, _ := specModuleByWords(spec())
		return len(text)
	}
	for bytes-length() > 64 {
		names = append(names, atom(strings.Repeat("a", 30))) // and ", " ahead of it
	}
	for bytes > length() {
		names = append(names, atom(strings.Repeat("b", min(30, max(1, (bytes-length())/2-2)))))
		if bytes-length() <= 30 && bytes-length() > 2 {
			names = append(names, atom(strings.Repeat("c", bytes-length()-2)))
		}
	}
	if length() != bytes {
		t.Fatal(length(), bytes)
	}
	return spec()
}

func TestLengthsOfModulesP12(t *testing.T) {
	longest := padded(t, 8000)
	text, code := specModule(t, longest)
	if len(text) != 8000 || code != impl.OK {
		t.Error(len(text), code)
	}
	if _, is := moduleOfSpec(t, longest); !is {
		t.Error("no module")
	}
	// One more byte, in a name of the Head or in the Body.
	more := copiedTerm(longest)
	more.Kids[0].Kids[2] = num(10)
	if text, code := specModule(t, more); text != "" || code != impl.ErrFull {
		t.Error(len(text), code)
	}
	if v, says, code := specRun(t, more, longest.Kids[0].Kids[0]); !same(v, num(10)) || !says || code != impl.OK {
		t.Error(v, says, code)
	}
	if text, code := specModule(t, padded(t, 7999)); len(text) != 7999 || code != impl.OK {
		t.Error(len(text), code)
	}
}

// Ints below 0 have two nodes each, so that there may be too many in a text that is not too long.
func TestNodesOfModulesP12(t *testing.T) {
	spec := func(below, above int) impl.Term {
		return list(tuple(tuple(slices.Concat(slices.Repeat([]impl.Term{num(-1)}, below), slices.Repeat([]impl.Term{num(1)}, above))...), list(), num(1)))
	}
	for _, x := range []struct{ below, above, nodes int }{{991, 1, 2000}, {991, 0, 1999}, {990, 3, 2000}, {992, 0, 2001}, {991, 2, 2001}, {1000, 0, 2017}, {1020, 0, 2057}} {
		text, code := specModule(t, spec(x.below, x.above))
		if x.nodes > 2000 {
			if text != "" || code != impl.ErrFull {
				t.Error(x, len(text), code)
			}
			continue
		}
		tree, wrong, _ := impl.Parse(text)
		if code != impl.OK || len(text) > 7100 || wrong != impl.OK || len(tree) != x.nodes {
			t.Error(x, len(text), code, wrong, len(tree))
		}
	}
	if _, is := moduleOfSpec(t, spec(991, 1)); !is {
		t.Error("no module")
	}
}
