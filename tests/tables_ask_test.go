package tests

import (
	"cmp"
	"slices"
	"strings"
	"testing"

	"loop.example/g00019/impl"
)

// specSays asks what a question says of rows: each is a row, an arrow, and the term that is said, nothing, or full.
func specSays(t *testing.T, spec string, rows ...string) {
	t.Helper()
	for _, s := range rows {
		text, want, is := strings.Cut(s, " -> ")
		if !is {
			t.Fatal(s)
		}
		v, says, code := specRun(t, term(spec), term(text))
		got := showOf(v)
		switch {
		case code == impl.ErrFull && !says && zero(v):
			got = "full"
		case code == impl.OK && !says && zero(v):
			got = "nothing"
		case code != impl.OK || !says:
			t.Fatal(spec, text, v, says, code)
		}
		if got != want {
			t.Errorf("%s says of %s %s, not %s", spec, text, got, want)
		}
	}
}

func showOf(v impl.Term) string {
	s, _ := impl.TermShow(v)
	return s
}

func TestHeadsFitP12(t *testing.T) {
	says := func(head string, rows ...string) {
		t.Helper()
		specSays(t, oneClause(head, "[]", "yes"), rows...)
	}
	says("{}", "{} -> yes", "{1} -> nothing", "[] -> nothing", "{{}} -> nothing", "a -> nothing", "#f1{} -> nothing", "#{} -> nothing", "<<>> -> nothing", "0 -> nothing")
	says("{a}", "{a} -> yes", "{b} -> nothing", "{a, a} -> nothing", "[a] -> nothing", "{} -> nothing", "{[a]} -> nothing", "{<<97>>} -> nothing", "a -> nothing", "#f1{a} -> nothing")
	says("{1, -1}", "{1, -1} -> yes", "{1, 1} -> nothing", "{-1, 1} -> nothing", "{1, -1, 0} -> nothing", "{#r1, -1} -> nothing", "{#p1, -1} -> nothing")
	says("{0}", "{0} -> yes", "{#r0} -> nothing", "{a} -> nothing", "{[]} -> nothing")
	says("{1000000000000000, -1000000000000000}", "{1000000000000000, -1000000000000000} -> yes", "{1000000000000000, 1000000000000000} -> nothing", "{-1000000000000000, -1000000000000000} -> nothing", "{999999999999999, -1000000000000000} -> nothing")
	says("{[]}", "{[]} -> yes", "{{}} -> nothing", "{[[]]} -> nothing", "{<<>>} -> nothing", "{#{}} -> nothing")
	says("{[1, 2]}", "{[1, 2]} -> yes", "{[1]} -> nothing", "{[1, 2, 3]} -> nothing", "{[2, 1]} -> nothing", "{{1, 2}} -> nothing", "{#{1 => 2}} -> nothing", "{<<1, 2>>} -> nothing")
	says("{{1, 2}}", "{{1, 2}} -> yes", "{{1}} -> nothing", "{{1, 2, 3}} -> nothing", "{[1, 2]} -> nothing", "{#f1{1, 2}} -> nothing")
	says("{{v, 0}}", "{a} -> yes", "{{}} -> yes", "{#{1 => #p2}} -> yes", "{#f7{1}} -> yes", "{<<1>>} -> yes", "{#r3} -> yes", "{} -> nothing", "{1, 2} -> nothing", "[1] -> nothing")
	says("{{v, 0}, {v, 0}, [{v, 0}]}", "{1, 2, [3]} -> yes", "{1, 1, [1]} -> yes", "{1, 2, [3, 3]} -> nothing", "{1, 2, []} -> nothing", "{1, 2, {3}} -> nothing")
	// Tuples that are no variables are Tuples.
	says("{{v, 21}}", "{{v, 21}} -> yes", "{a} -> nothing", "{{v, 20}} -> nothing", "{v, 21} -> nothing")
	says("{v, 21}", "{v, 21} -> yes", "{v, 1} -> nothing", "{{v, 21}} -> nothing")
	says("{v, -1}", "{v, -1} -> yes", "{v, 1} -> nothing", "a -> nothing")
	says("{v, {v, 1}}", "{v, 1} -> yes", "{v, {v, 1}} -> yes", "{w, 1} -> nothing")
	says("{v, 1, {v, 1}}", "{v, 1, 2} -> yes", "{v, 2, 2} -> nothing")
	says("{{v}}", "{{v}} -> yes", "{{w}} -> nothing", "{a} -> nothing")
	says("{{v, a}}", "{{v, a}} -> yes", "{{v, 1}} -> nothing")
	says("{v}", "{v} -> yes", "{a} -> nothing")
}

func TestVariablesThatStandTwiceP12(t *testing.T) {
	terms := []string{"0", "1", "-1", "a", "b", "#r1", "#p1", "#f1{}", "#f1{1}", "#f2{}", "{}", "{1}", "{{1}}", "[]", "[1]", "[1, 1]", "#{}", "#{1 => 2}", "#{1 => 1}", "<<>>", "<<1>>"}
	for _, head := range []string{"{{v, 1}, {v, 1}}", "{{v, 20}, {v, 20}}"} {
		for _, a := range terms {
			for _, b := range terms {
				want := " -> nothing"
				if a == b {
					want = " -> yes"
				}
				specSays(t, oneClause(head, "[]", "yes"), "{"+a+", "+b+"}"+want)
			}
		}
	}
	specSays(t, oneClause("{{v, 1}, [{v, 2}, {{v, 1}}], {v, 2}}", "[]", "[{v, 1}, {v, 2}]"),
		"{1, [2, {1}], 2} -> [1, 2]", "{1, [1, {1}], 1} -> [1, 1]", "{1, [2, {2}], 2} -> nothing", "{1, [2, {1}], 1} -> nothing", "{1, [2, 1], 2} -> nothing")
	specSays(t, oneClause("{{v, 1}, {v, 1}, {v, 1}}", "[]", "{v, 1}"), "{a, a, a} -> a", "{a, a, b} -> nothing", "{a, b, a} -> nothing", "{b, a, a} -> nothing")
	// Each clause has its own.
	specSays(t, "["+clauseText("{{v, 1}, a}", "[]", "[1, {v, 1}]")+", "+clauseText("{b, {v, 1}}", "[]", "[2, {v, 1}]")+"]", "{b, a} -> [1, b]", "{b, b} -> [2, b]", "{b, c} -> [2, c]", "{a, b} -> nothing")
}

func TestFirstClauseThatCountsP12(t *testing.T) {
	three := "[{{1, {v, 0}}, [], one}, {{{v, 1}, {v, 2}}, [{lt, {v, 1}, {v, 2}}], two}, {{{v, 0}, {v, 0}}, [], three}]"
	specSays(t, three, "{1, 2} -> one", "{1, 0} -> one", "{2, 3} -> two", "{2, 2} -> three", "{3, 2} -> three", "{} -> nothing", "{1} -> nothing", "{1, 2, 3} -> nothing", "[1, 2] -> nothing")
	// One whose Body is too large counts too, and none behind it.
	large := "[{{{v, 1}}, [{is_list, {v, 1}}], [{v, 1}, {v, 1}]}, {{{v, 0}}, [], small}]"
	if v, says, code := specRun(t, term(large), tuple(many(num(1), 1500))); !zero(v) || says || code != impl.ErrFull {
		t.Error(v, says, code)
	}
	specSays(t, large, "{[]} -> [[], []]", "{1} -> small")
}

// trueOf asks of which rows conditions are true.
func trueOf(t *testing.T, head, conds string, rows ...string) {
	t.Helper()
	for _, s := range rows {
		row, want, _ := strings.Cut(s, " -> ")
		specSays(t, oneClause(head, "["+conds+"]", "ok"), row+" -> "+map[string]string{"true": "ok", "false": "nothing"}[want])
	}
}

func TestConditionsThatAreNoOpsP12(t *testing.T) {
	trueOf(t, "{}", "", "{} -> true")
	trueOf(t, "{}", "true", "{} -> true")
	for _, c := range []string{"false", "a", "0", "1", "-1", "tru", "truee"} {
		trueOf(t, "{}", c, "{} -> false")
		trueOf(t, "{}", "true, "+c, "{} -> false")
		trueOf(t, "{}", c+", true", "{} -> false")
	}
	trueOf(t, "{}", "true, true, true", "{} -> true")
	trueOf(t, "{{v, 1}}", "{v, 1}", "{true} -> true", "{false} -> false", "{1} -> false", "{[true]} -> false", "{{true}} -> false", "{<<1>>} -> false", "{#f1{}} -> false")
	trueOf(t, "{{v, 1}, {v, 20}}", "{v, 20}, {v, 1}", "{true, true} -> true", "{false, true} -> false", "{true, false} -> false")
}

func TestComparisonsOfQuestionsP12(t *testing.T) {
	ladder := []string{"-1", "0", "1", "a", "b", "#r1", "#f1{}", "#p1", "{}", "{1}", "{0, 0}", "#{}", "#{1 => 1}", "[]", "[0, 5]", "[1]", "<<>>", "<<1>>"}
	orders := map[string][]int{"eq": {0}, "ne": {-1, 1}, "lt": {-1}, "le": {-1, 0}, "gt": {1}, "ge": {0, 1}}
	for op, yes := range orders {
		for i, a := range ladder {
			for k, b := range ladder {
				want := " -> false"
				if slices.Contains(yes, cmp.Compare(i, k)) {
					want = " -> true"
				}
				trueOf(t, "{{v, 1}, {v, 2}}", "{"+op+", {v, 1}, {v, 2}}", "{"+a+", "+b+"}"+want)
			}
		}
	}
	trueOf(t, "{{v, 1}}", "{eq, {v, 1}, -5}", "{-5} -> true", "{5} -> false")
	trueOf(t, "{{v, 1}}", "{lt, -5, {v, 1}}", "{-4} -> true", "{-5} -> false", "{a} -> true")
}

func TestNumbersOfQuestionsP12(t *testing.T) {
	worth := func(cond string, rows ...string) {
		t.Helper()
		trueOf(t, "{{v, 1}, {v, 2}, {v, 3}}", "{eq, "+cond+", {v, 3}}", rows...)
	}
	worth("{plus, {v, 1}, {v, 2}}", "{2, 3, 5} -> true", "{2, -3, -1} -> true", "{2, 3, 6} -> false", "{999999999999999, 1, 1000000000000000} -> true")
	worth("{minus, {v, 1}, {v, 2}}", "{2, 3, -1} -> true", "{2, -3, 5} -> true", "{3, 2, -1} -> false", "{-999999999999999, 1, -1000000000000000} -> true")
	worth("{times, {v, 1}, {v, 2}}", "{2, 3, 6} -> true", "{2, -3, -6} -> true", "{0, 1000000000000000, 0} -> true", "{1000000000000000, -1, -1000000000000000} -> true", "{2, 3, 5} -> false", "{10000000, 100000000, 1000000000000000} -> true")
	worth("{amount, {v, 1}}", "{-3, 0, 3} -> true", "{3, 0, 3} -> true", "{-3, 0, -3} -> false", "{-1000000000000000, 0, 1000000000000000} -> true")
	worth("{minus, {times, {v, 1}, {v, 1}}, {plus, {v, 2}, 1}}", "{3, 4, 4} -> true", "{3, 4, 5} -> false")
	// What goes up with an error is not true, whatever stands around it.
	for _, op := range []string{"plus", "minus", "times"} {
		for _, cond := range []string{"{ne, {" + op + ", {v, 1}, {v, 2}}, none}", "{either, true, {is_integer, {" + op + ", {v, 1}, {v, 2}}}}", "{no, {is_atom, {" + op + ", {v, 1}, {v, 2}}}}"} {
			trueOf(t, "{{v, 1}, {v, 2}}", cond, "{1, 1} -> true", "{a, 1} -> false", "{1, a} -> false", "{[], 1} -> false", "{1, {}} -> false", "{#r1, 1} -> false", "{<<1>>, <<2>>} -> false")
			edge := map[string]string{"plus": "{1000000000000000, 1}", "minus": "{-1000000000000000, 1}", "times": "{1000000000000000, 2}"}[op]
			trueOf(t, "{{v, 1}, {v, 2}}", cond, edge+" -> false")
		}
	}
	trueOf(t, "{{v, 1}, {v, 2}}", "{ne, {times, {v, 1}, {v, 2}}, none}", "{1000000000000000, 1000000000000000} -> false", "{-1000000000000000, 1000000000000000} -> false", "{10000001, 100000000} -> false")
	trueOf(t, "{{v, 1}}", "{ne, {amount, {v, 1}}, none}", "{-1} -> true", "{a} -> false", "{[1]} -> false", "{#p1} -> false")
}

func TestBothAndEitherP12(t *testing.T) {
	values := []string{"true", "false", "1", "a", "up"}
	part := map[string]string{"true": "{v, 1}", "false": "{v, 2}", "1": "{v, 3}", "a": "{v, 4}", "up": "{first, {v, 3}}"}
	for _, a := range values {
		for _, b := range values {
			well := (a == "true" || a == "false") && (b == "true" || b == "false")
			for op, yes := range map[string]bool{"both": a == "true" && b == "true", "either": a == "true" || b == "true"} {
				cond := "{" + op + ", " + part[a] + ", " + part[b] + "}"
				want, wantNo := " -> false", " -> false"
				if well && yes {
					want = " -> true"
				}
				if well && !yes {
					wantNo = " -> true"
				}
				row := "{true, false, 1, a}"
				head := "{{v, 1}, {v, 2}, {v, 3}, {v, 4}}"
				trueOf(t, head, cond, row+want)
				trueOf(t, head, "{no, "+cond+"}", row+wantNo)
				trueOf(t, head, "{either, true, {eq, 1, {elem, 1, "+cond+"}}}", row+" -> false")
			}
		}
	}
	trueOf(t, "{{v, 1}}", "{no, {v, 1}}", "{false} -> true", "{true} -> false", "{1} -> false", "{a} -> false", "{[]} -> false")
	trueOf(t, "{{v, 1}}", "{no, {no, {v, 1}}}", "{true} -> true", "{false} -> false", "{1} -> false")
}

func TestFunctionsOfQuestionsP12(t *testing.T) {
	row := []string{"1", "a", "{}", "{1}", "[]", "[1]", "#{}", "<<1>>", "#p1", "#r1", "#f1{}"}
	kinds := map[string][]string{"is_integer": {"1"}, "is_atom": {"a"}, "is_tuple": {"{}", "{1}"}, "is_list": {"[]", "[1]"}}
	for op, yes := range kinds {
		for _, x := range row {
			want := " -> false"
			if slices.Contains(yes, x) {
				want = " -> true"
			}
			trueOf(t, "{{v, 1}}", "{"+op+", {v, 1}}", "{"+x+"}"+want)
		}
	}
	takes := map[string][]string{"len": {"[]", "[1]"}, "width": {"{}", "{1}"}, "first": {"[1]"}, "rest": {"[1]"}, "amount": {"1"}}
	for op, well := range takes {
		for _, x := range row {
			want := " -> false"
			if slices.Contains(well, x) {
				want = " -> true"
			}
			trueOf(t, "{{v, 1}}", "{ne, {"+op+", {v, 1}}, none}", "{"+x+"}"+want)
		}
	}
	trueOf(t, "{{v, 1}, {v, 2}}", "{eq, {len, {v, 1}}, {v, 2}}", "{[], 0} -> true", "{[a, b], 2} -> true", "{[a, b], 1} -> false")
	trueOf(t, "{{v, 1}, {v, 2}}", "{eq, {width, {v, 1}}, {v, 2}}", "{{}, 0} -> true", "{{a, b, c}, 3} -> true", "{{a}, 2} -> false")
	trueOf(t, "{{v, 1}, {v, 2}}", "{eq, {first, {v, 1}}, {v, 2}}", "{[a], a} -> true", "{[a, b], a} -> true", "{[a, b], b} -> false", "{[], a} -> false")
	trueOf(t, "{{v, 1}, {v, 2}}", "{eq, {rest, {v, 1}}, {v, 2}}", "{[a], []} -> true", "{[a, b], [b]} -> true", "{[a, b, c], [b, c]} -> true", "{[a, b], [a]} -> false", "{[], []} -> false")
	trueOf(t, "{{v, 1}, {v, 2}, {v, 3}}", "{eq, {elem, {v, 1}, {v, 2}}, {v, 3}}",
		"{1, {a, b}, a} -> true", "{2, {a, b}, b} -> true", "{2, {a, b}, a} -> false", "{0, {a, b}, a} -> false", "{3, {a, b}, b} -> false", "{-1, {a}, a} -> false", "{1, {}, a} -> false",
		"{a, {a}, a} -> false", "{1, [a], a} -> false", "{{a}, 1, a} -> false", "{1, a, a} -> false")
	trueOf(t, "{{v, 1}}", "{eq, {first, {rest, {elem, 2, {v, 1}}}}, x}", "{{a, [b, x]}} -> true", "{{a, [x, b]}} -> false", "{{a, [x]}} -> false")
}

func TestBodiesOfAnswersP12(t *testing.T) {
	worth := func(body, want string) {
		t.Helper()
		specSays(t, oneClause("{{v, 1}, {v, 2}, [{v, 20}]}", "[]", body), "{a, [b], [#{1 => c}]} -> "+want)
	}
	worth("true", "true")
	worth("-7", "-7")
	worth("0", "0")
	worth("[]", "[]")
	worth("{tup, []}", "{}")
	worth("{v, 1}", "a")
	worth("{v, 2}", "[b]")
	worth("{v, 20}", "#{1 => c}")
	worth("{row}", "{a, [b], [#{1 => c}]}")
	worth("[{v, 1}, {v, 2}, -1, x]", "[a, [b], -1, x]")
	worth("{tup, [{v, 1}, {v, 2}, -1, x]}", "{a, [b], -1, x}")
	worth("{tup, [{tup, [{v, 1}]}, [{tup, []}], [[]], {row}]}", "{{a}, [{}], [[]], {a, [b], [#{1 => c}]}}")
	worth("[{row}, {row}, {v, 2}, {v, 2}]", "[{a, [b], [#{1 => c}]}, {a, [b], [#{1 => c}]}, [b], [b]]")
	worth("[tup, [{v, 1}]]", "[tup, [a]]")
	worth("row", "row")
}

// Answers as large and as deep as a term may be, and larger.
func TestLargeAnswersP12(t *testing.T) {
	type sized struct {
		body string
		row  impl.Term
		code int
	}
	v := func(n int) impl.Term { return tuple(many(num(1), n)) } // of n + 2 terms
	long := tuple(many(bin(strings.Repeat("x", 4000)), 1990))
	deep := func(n int) impl.Term { return tuple(nest(num(1), n-2)) } // n deep
	for _, x := range []sized{
		{"{row}", v(1998), impl.OK}, {"{v, 1}", v(1998), impl.OK}, {"[{v, 1}]", v(1998), impl.OK}, {"[{v, 1}, 1]", v(1998), impl.ErrFull}, {"[{v, 1}, 1]", v(1997), impl.OK},
		{"[{row}]", v(1998), impl.ErrFull}, {"[{row}]", v(1997), impl.OK}, {"{tup, [{v, 1}, a]}", v(1998), impl.ErrFull}, {"{tup, [{v, 1}, a]}", v(1997), impl.OK},
		{"[{v, 1}, {v, 1}]", v(998), impl.OK}, {"[{v, 1}, {v, 1}]", v(999), impl.ErrFull}, {"{tup, [{v, 1}, {v, 1}, a]}", v(998), impl.OK}, {"{tup, [{v, 1}, {v, 1}, a, a]}", v(998), impl.ErrFull},
		{"{row}", deep(100), impl.OK}, {"{v, 1}", deep(100), impl.OK}, {"[{v, 1}]", deep(100), impl.OK}, {"[[{v, 1}]]", deep(100), impl.ErrFull}, {"[{row}]", deep(99), impl.OK}, {"[{row}]", deep(100), impl.ErrFull},
		{"{tup, [{tup, [{v, 1}]}]}", deep(99), impl.OK}, {"{tup, [{tup, [{v, 1}]}]}", deep(100), impl.ErrFull}, {"{tup, [{row}]}", deep(99), impl.OK}, {"{tup, [{row}]}", deep(100), impl.ErrFull},
		{"{v, 1}", long, impl.OK}, {"[{v, 1}, {v, 1}]", long, impl.ErrFull},
		{"[" + strings.Repeat("{row}, ", 600) + "1]", v(1900), impl.ErrFull},
	} {
		spec := term(oneClause("{{v, 1}}", "[]", x.body))
		got, says, code := specRun(t, spec, x.row)
		if code != x.code || says != (code == impl.OK) || zero(got) == says {
			t.Error(x.body[:min(20, len(x.body))], says, code, x.code)
		}
	}
}

func TestRowsThatAreNotRightP12(t *testing.T) {
	specs := []string{oneClause("{{v, 0}}", "[]", "1"), oneClause("{}", "[]", "1"), oneClause("{{v, 1}}", "[false]", "1"), oneClause("{{v, 1}}", "[]", "["+strings.Repeat("{row}, ", 500)+"1]")}
	for what, x := range wrongTerms() {
		for _, spec := range specs {
			for _, row := range []impl.Term{x, tuple(x)} {
				if v, says, code := impl.SpecRun(term(spec), row); !zero(v) || says || code != impl.ErrBad {
					t.Error(what, spec, v, says, code)
				}
			}
		}
	}
	// ErrBad comes ahead of ErrFull, whichever of the two is none.
	full := term(oneClause("{{v, 1}}", "[]", "[{v, 1}, {v, 1}]"))
	row := tuple(many(num(1), 1500))
	if _, _, code := specRun(t, full, row); code != impl.ErrFull {
		t.Error(code)
	}
	row.Kids[0].Kids[1499] = num(impl.MaxInt + 1)
	if _, _, code := specRun(t, full, row); code != impl.ErrBad {
		t.Error(code)
	}
	// What is no Tuple may be asked about, too.
	for _, x := range ladder() {
		specRun(t, term(oneClause("{{v, 0}}", "[]", "{row}")), x)
	}
}
