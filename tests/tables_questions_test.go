package tests

import (
	"slices"
	"strconv"
	"strings"
	"testing"

	"loop.example/g00019/impl"
)

// clauseText is a clause of a question.
func clauseText(head, conds, body string) string {
	return "{" + head + ", " + conds + ", " + body + "}"
}

// oneClause is a question of one clause.
func oneClause(head, conds, body string) string { return "[" + clauseText(head, conds, body) + "]" }

func areSpecs(t *testing.T, specs ...string) {
	t.Helper()
	for _, s := range specs {
		if !isSpec(t, term(s)) {
			t.Error("no question: ", s)
		}
	}
}

// areNoSpecs asks that terms are no questions, and what a question is wanted for says so.
func areNoSpecs(t *testing.T, specs ...string) {
	t.Helper()
	for _, s := range specs {
		spec := term(s)
		if isSpec(t, spec) {
			t.Error("a question: ", s)
		}
		refusesSpec(t, spec)
	}
}

func refusesSpec(t *testing.T, spec impl.Term) {
	t.Helper()
	if v, says, code := specRun(t, spec, term("{1}")); !zero(v) || says || code != impl.ErrBad {
		t.Error("SpecRun", spec, v, says, code)
	}
	if text, code := specModule(t, spec); text != "" || code != impl.ErrBad {
		t.Error("SpecModule", spec, text, code)
	}
	for _, tab := range []impl.Table{{Type: impl.TbSet}, readTable(impl.TbLog, "{1}, {2}")} {
		if row, code := tabSelect(t, tab, spec); len(row) > 0 || code != impl.ErrBad {
			t.Error("TabSelect", spec, row, code)
		}
		if left, n, code := tabPrune(t, tab, spec); !sameTable(left, impl.Table{}) || n != 0 || code != impl.ErrBad {
			t.Error("TabPrune", spec, left, n, code)
		}
	}
}

// areHeads, areConds and areBodies ask for questions that have such a part; each variable 1 .. 20 stands in the Head of the others.
func areHeads(t *testing.T, heads ...string) {
	t.Helper()
	for _, s := range heads {
		areSpecs(t, oneClause(s, "[]", "1"))
	}
}

func areNoHeads(t *testing.T, heads ...string) {
	t.Helper()
	for _, s := range heads {
		areNoSpecs(t, oneClause(s, "[]", "1"))
	}
}

// fullHead is a Head in which all variables stand.
func fullHead() string {
	var vars []string
	for n := range 21 {
		vars = append(vars, "{v, "+strconv.Itoa(n)+"}")
	}
	return "{" + strings.Join(vars, ", ") + "}"
}

// condAt and bodyAt is a part at each place that it may have in a condition, in a Body.
func condAt(s string) []string {
	var specs []string
	for _, cond := range []string{"@", "{no, @}", "{eq, @, 1}", "{eq, 1, @}", "{both, true, {no, {len, @}}}"} {
		cond = strings.Replace(cond, "@", s, 1)
		specs = append(specs, oneClause(fullHead(), "["+cond+"]", "1"), oneClause(fullHead(), "[true, "+cond+", true]", "1"))
	}
	return specs
}

func bodyAt(s string) []string {
	var specs []string
	for _, body := range []string{"@", "[@]", "[1, @, 1]", "{tup, [@]}", "{tup, [1, @]}", "[[{tup, [[@]]}]]"} {
		specs = append(specs, oneClause(fullHead(), "[]", strings.Replace(body, "@", s, 1)))
	}
	return specs
}

func areConds(t *testing.T, conds ...string) {
	t.Helper()
	for _, s := range conds {
		areSpecs(t, condAt(s)...)
	}
}

func areNoConds(t *testing.T, conds ...string) {
	t.Helper()
	for _, s := range conds {
		areNoSpecs(t, condAt(s)...)
	}
}

func areBodies(t *testing.T, bodies ...string) {
	t.Helper()
	for _, s := range bodies {
		areSpecs(t, bodyAt(s)...)
	}
}

func areNoBodies(t *testing.T, bodies ...string) {
	t.Helper()
	for _, s := range bodies {
		areNoSpecs(t, bodyAt(s)...)
	}
}

func TestClausesOfQuestionsP12(t *testing.T) {
	clause := "{{a}, [], true}"
	for _, n := range []int{1, 2, 19, 20} {
		areSpecs(t, "["+strings.Repeat(clause+", ", n-1)+clause+"]")
	}
	areNoSpecs(t, "[]", "["+strings.Repeat(clause+", ", 20)+clause+"]", "["+strings.Repeat(clause+", ", 300)+clause+"]")
	areNoSpecs(t, clause, "{"+clause+"}", "a", "7", "<<>>", "#{}", "#{"+clause+" => "+clause+"}", "#f1{"+clause+"}", "#p1", "#r1")
	areNoSpecs(t, "[{}]", "[{{a}}]", "[{{a}, []}]", "[{{a}, [], true, true}]", "[[{a}, [], true]]", "[a]", "[1]", "[[]]", "[#f1{{a}, [], true}]", "[#{{a} => []}]", "[<<1, 2, 3>>]", "[#p3]", "[#r3]")
	// One that is none among others that are.
	for _, wrong := range []string{"{{a}, []}", "{{a}, [], {}}", "a", "{[a], [], true}"} {
		areNoSpecs(t, "["+wrong+", "+clause+"]", "["+clause+", "+wrong+"]", "["+clause+", "+wrong+", "+clause+"]")
	}
	// The parts in another order.
	areSpecs(t, "[{{a}, [], []}]")
	areNoSpecs(t, "[{[], {a}, []}]", "[{[], [], {a}}]", "[{{a}, {a}, []}]", "[{{a}, {}, 1}]", "[{{a}, true, 1}]")
}

func TestHeadsOfQuestionsP12(t *testing.T) {
	areHeads(t, "{}", "{a}", "{1}", "{-1}", "{0}", "{1000000000000000}", "{-1000000000000000}", "{[]}", "{{}}", "{a, 1, [], {}}", "{[a, [1, {}], {[]}]}", fullHead(), "{true}", "{row}", "{tup, []}", "{eq, 1}", "{v}")
	areHeads(t, "{{v, 0}}", "{{v, 1}}", "{{v, 20}}", "{{v, 1}, {v, 1}}", "{[{v, 1}], {v, 0}, {{v, 20}}}", "{{{v, 3}, {v, 0}}}")
	// A Head is a Tuple, and no variable.
	areNoHeads(t, "[]", "[a]", "a", "1", "-1", "<<>>", "#{}", "#p1", "#r1", "#f1{}", "#f1{a}", "[{a}]")
	areNoHeads(t, "{v, 0}", "{v, 1}", "{v, 2}", "{v, 19}", "{v, 20}")
	// Tuples like any other ones, as a Head and in it.
	for _, s := range []string{"{v, 21}", "{v, 22}", "{v, -1}", "{v, -20}", "{v, 1000000000000000}", "{v, a}", "{v, v}", "{v, []}", "{v, [1]}", "{v, {v, 1}}", "{v, {1}}", "{v}", "{v, 1, 2}", "{v, 1, v, 1}", "{1, v}", "{1, 1}", "{w, 1}", "{vv, 1}", "{v1, 1}", "{{v}, 1}", "{{v, 1}, 1}", "{v, {}}"} {
		areHeads(t, s, "{"+s+"}", "{1, ["+s+"]}")
	}
	areNoHeads(t, "{v, <<1>>}", "{v, #p1}", "{v, #r1}", "{v, #f1{}}", "{v, #{}}")
	// Terms of other Kinds, and reserved words, at each place.
	for _, s := range otherParts() {
		areNoHeads(t, "{"+s+"}", "{a, "+s+"}", "{"+s+", a}", "{{v, 1}, {1, {"+s+"}}}", "{["+s+"]}", "{[[], [1, "+s+"]]}", "{"+s+", {v, 1}}")
	}
}

// otherParts is parts that may stand nowhere in a question.
func otherParts() []string {
	return append(strings.Fields(reservedByWords), "#p1", "#r0", "#f1{}", "#f1{1}", "#{}", "#{a => 1}", "<<>>", "<<1>>")
}

func TestConditionsOfQuestionsP12(t *testing.T) {
	areSpecs(t, oneClause("{a}", "[]", "1"), oneClause("{a}", "[true, false, a, 1, -1]", "1"))
	areConds(t, "true", "false", "a", "0", "1", "-1", "row", "v", "tup", "eq")
	for n := 1; n <= 20; n++ {
		areConds(t, "{v, "+strconv.Itoa(n)+"}")
	}
	areNoConds(t, "{v, 0}", "{v, 21}", "{v, -1}", "{v}", "{v, 1, 1}", "{v, a}", "{v, {v, 1}}", "{v, []}", "{1, v}", "{w, 1}")
	areNoConds(t, "{}", "{a}", "{1}", "{eq}", "[]", "[1]", "[true]", "[{v, 1}]", "{row}", "{tup, []}", "{tup, [1]}", "{tup}", "{foo, 1}", "{foo, 1, 1}", "{{eq}, 1, 1}", "{1, 1, 1}", "{1, 1}", "{[], 1}", "{<<>>, 1}")
	// What the language says is no Op, nor what nearly is one, nor what has no Op at all.
	areNoConds(t, "{element, 1, {v, 1}}", "{length, {v, 1}}", "{tuple_size, {v, 1}}", "{hd, {v, 1}}", "{tl, {v, 1}}", "{abs, 1}", "{is_map, 1}", "{is_binary, 1}", "{is_pid, 1}", "{is_ref, 1}", "{is_function, 1}", "{map_size, 1}", "{byte_size, 1}", "{map_get, 1, 1}", "{andalso, true, true}", "{and, true, true}", "{not, true}", "{divide, 1, 1}", "{eqx, 1, 1}", "{e, 1, 1}", "{elem_, 1, 1}")
	for _, s := range otherParts() {
		areNoConds(t, s)
		areNoSpecs(t, oneClause("{a}", s, "1"))
	}
	areNoSpecs(t, oneClause("{a}", "{true}", "1"), oneClause("{a}", "true", "1"), oneClause("{a}", "{}", "1"), oneClause("{a}", "1", "1"))
}

func TestOpsOfQuestionsP12(t *testing.T) {
	for op := range pairedOps {
		areConds(t, "{"+op+", 1, 1}", "{"+op+", {v, 1}, {v, 20}}")
		areNoConds(t, "{"+op+"}", "{"+op+", 1}", "{"+op+", 1, 1, 1}", "{"+op+", 1, 1, 1, 1}", "["+op+", 1, 1]")
	}
	for op := range loneOps {
		areConds(t, "{"+op+", 1}", "{"+op+", {v, 7}}")
		areNoConds(t, "{"+op+"}", "{"+op+", 1, 1}", "{"+op+", 1, 1, 1}", "["+op+", 1]")
	}
	if len(pairedOps) != 12 || len(loneOps) != 10 {
		t.Error("the document names 12 Ops of two and 10 of one")
	}
}

func TestBodiesOfQuestionsP12(t *testing.T) {
	areBodies(t, "true", "a", "0", "-1", "[]", "{row}", "{tup, []}", "{tup, [1]}", "[1, a, [2], {row}]", "{tup, [{tup, [{row}, []]}, {row}, [{tup, []}]]}", "row", "tup", "v", "eq", "[tup, [1]]", "[row]")
	for n := 1; n <= 20; n++ {
		areBodies(t, "{v, "+strconv.Itoa(n)+"}")
	}
	areNoBodies(t, "{v, 0}", "{v, 21}", "{v, -1}", "{v}", "{v, 1, 1}", "{v, a}", "{v, []}", "{1, v}")
	areNoBodies(t, "{}", "{a}", "{1}", "{a, b}", "{row, 1}", "{row, []}", "{row, {row}}", "{{row}}", "{tup}", "{tup, 1}", "{tup, a}", "{tup, {1}}", "{tup, {}}", "{tup, {row}}", "{tup, [], []}", "{tup, [1], 1}", "{tup, 1, [1]}", "{[1], tup}", "{[], []}", "{eq, 1, 1}", "{no, true}", "{tup, <<>>}", "{tup, #{}}", "{tup, #f1{}}", "{rows}", "{tups, []}", "{#f1{}}", "{<<>>}")
	for _, s := range otherParts() {
		areNoBodies(t, s)
	}
}

// A variable has to stand in the Head of its own clause.
func TestVariablesOfQuestionsP12(t *testing.T) {
	for _, part := range [][2]string{{"[{v, 1}]", "1"}, {"[{eq, 1, {v, 1}}]", "1"}, {"[]", "{v, 1}"}, {"[]", "[{tup, [{v, 1}]}]"}} {
		areSpecs(t, oneClause("{{v, 1}}", part[0], part[1]), oneClause("{{v, 0}, [a, {{v, 1}}]}", part[0], part[1]), oneClause("{{v, 1}, {v, 1}}", part[0], part[1]))
		areNoSpecs(t, oneClause("{}", part[0], part[1]), oneClause("{a}", part[0], part[1]), oneClause("{{v, 2}, {v, 0}}", part[0], part[1]), oneClause("{v, {v, 2}}", part[0], part[1]), oneClause("{v, 1, 1}", part[0], part[1]), oneClause("{{v, 11}}", part[0], part[1]))
		with, without := clauseText("{{v, 1}}", "[]", "1"), clauseText("{{v, 2}}", part[0], part[1])
		areNoSpecs(t, "["+with+", "+without+"]", "["+without+", "+with+"]", "["+with+", "+without+", "+with+"]")
	}
	// {v, 0} is none of those, also where it stands in the Head.
	areNoSpecs(t, oneClause("{{v, 0}}", "[{v, 0}]", "1"), oneClause("{{v, 0}}", "[]", "{v, 0}"), oneClause("{{v, 0}, {v, 1}}", "[{eq, {v, 0}, 1}]", "1"))
	// What looks like one with a number that is too large is none, whatever stands in the Head.
	areNoSpecs(t, oneClause("{{v, 21}}", "[{v, 21}]", "1"), oneClause("{{v, 21}}", "[]", "{v, 21}"), oneClause("{{v, -1}}", "[]", "{v, -1}"))
}

// Terms that are not right, as questions and at each place of one.
func TestWrongTermsAsQuestionsP12(t *testing.T) {
	a := atom("a")
	clause := func(head, cond, body impl.Term) impl.Term { return list(tuple(tuple(head), list(cond), body)) }
	row := tuple(num(1))
	for what, x := range wrongTerms() {
		for place, spec := range map[string]impl.Term{
			"whole": x, "clause": list(x), "head": list(tuple(x, list(), a)), "in the head": clause(x, a, a), "conditions": list(tuple(tuple(a), x, a)), "condition": clause(a, x, a),
			"in a condition": clause(a, tuple(atom("no"), x), a), "body": clause(a, a, x), "in the body": clause(a, a, list(x)),
		} {
			if what == "2001 terms" && impl.TermOK(spec) {
				t.Error("it is right")
			}
			if impl.SpecOK(spec) {
				t.Error("a question:", what, place)
			}
			if v, says, code := impl.SpecRun(spec, row); !zero(v) || says || code != impl.ErrBad {
				t.Error("SpecRun", what, place, v, says, code)
			}
			if text, code := impl.SpecModule(spec); text != "" || code != impl.ErrBad {
				t.Error("SpecModule", what, place, text, code)
			}
			if told, code := impl.TabSelect(tableOf(impl.TbSet, row), spec); len(told) > 0 || code != impl.ErrBad {
				t.Error("TabSelect", what, place, told, code)
			}
			if left, n, code := impl.TabPrune(tableOf(impl.TbSet, row), spec); !sameTable(left, impl.Table{}) || n != 0 || code != impl.ErrBad {
				t.Error("TabPrune", what, place, left, n, code)
			}
		}
	}
}

// A question as large and as deep as a term may be.
func TestLargeQuestionsP12(t *testing.T) {
	spec := func(n int, deep int) impl.Term {
		return list(tuple(tuple(slices.Repeat([]impl.Term{num(1)}, n)...), list(), nest(num(1), deep)))
	}
	// The List, the clause, the Head, the conditions and the Body.
	if x := spec(1995, 0); !isSpec(t, x) || isSpec(t, spec(1996, 0)) {
		t.Error(impl.TermSize(x))
	}
	// The List, the clause, and the Body.
	if x := spec(1, 97); !isSpec(t, x) || isSpec(t, spec(1, 98)) {
		t.Error("depth")
	}
	refusesSpec(t, spec(1996, 0))
	refusesSpec(t, spec(1, 98))
	deep := list(tuple(tuple(nest(tuple(atom("v"), num(3)), 95)), list(), tuple(atom("v"), num(3))))
	if v, says, code := specRun(t, deep, tuple(nest(atom("x"), 95))); !same(v, atom("x")) || !says || code != impl.OK {
		t.Error(v, says, code)
	}
}
