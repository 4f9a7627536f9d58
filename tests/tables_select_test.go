package tests

import (
	"slices"
	"strings"
	"testing"

	"loop.example/g00019/impl"
)

// selects asks what a question says of the rows of a table, and which it takes out.
func selects(t *testing.T, rows, spec, told, left string, gone int) {
	t.Helper()
	for _, kind := range tableTypes {
		tab := readTable(kind, rows)
		if !impl.TabOK(tab) {
			continue
		}
		got, code := tabSelect(t, tab, term(spec))
		rowsAre(t, "what "+spec+" says", tableOf(kind, got...), code, told)
		after, n, code := tabPrune(t, tab, term(spec))
		rowsAre(t, "what "+spec+" leaves", after, code, left)
		if n != gone || after.Type != kind {
			t.Error(spec, rows, n, after)
		}
		// Asked once more, none that is left says true.
		if again, n, code := tabPrune(t, after, term(spec)); code != impl.OK || n != 0 || !sameTable(again, after) {
			t.Error(spec, rows, n, again)
		}
	}
}

func TestSelectAndPruneP13(t *testing.T) {
	rows := "{1, a}, {2, b}, {3, a}, {4, c}, {5}"
	selects(t, rows, oneClause("{{v, 1}, a}", "[]", "{v, 1}"), "1, 3", rows, 0)
	selects(t, rows, oneClause("{{v, 1}, a}", "[]", "true"), "true, true", "{2, b}, {4, c}, {5}", 2)
	selects(t, rows, oneClause("{{v, 0}, {v, 0}}", "[]", "true"), "true, true, true, true", "{5}", 4)
	selects(t, rows, oneClause("{{v, 0}}", "[]", "true"), "true", "{1, a}, {2, b}, {3, a}, {4, c}", 1)
	selects(t, rows, oneClause("{}", "[]", "true"), "", rows, 0)
	selects(t, rows, "[{{{v, 1}}, [], true}, {{{v, 1}, {v, 2}}, [], true}]", "true, true, true, true, true", "", 5)
	selects(t, rows, oneClause("{{v, 1}, {v, 0}}", "[{gt, {v, 1}, 1}, {lt, {v, 1}, 4}]", "{row}"), "{2, b}, {3, a}", rows, 0)
	// True of some rows, another term of others, nothing of the rest.
	selects(t, rows, "[{{{v, 1}, a}, [{gt, {v, 1}, 1}], true}, {{{v, 1}, a}, [], {v, 1}}, {{{v, 1}, b}, [], false}]", "1, false, true", "{1, a}, {2, b}, {4, c}, {5}", 1)
	selects(t, rows, "[{{{v, 1}, b}, [], [true]}, {{{v, 1}, {v, 2}}, [{eq, {v, 2}, c}], {tup, [true]}}, {{{v, 1}}, [], tru}]", "[true], {true}, tru", rows, 0)
	selects(t, "", oneClause("{{v, 0}}", "[]", "true"), "", "", 0)
	// The Atom true of the row itself.
	selects(t, "{1, true}, {2, false}, {3, 1}, {4, true}, {5, [true]}", oneClause("{{v, 0}, {v, 1}}", "[]", "{v, 1}"), "true, false, 1, true, [true]", "{2, false}, {3, 1}, {5, [true]}", 2)
	selects(t, "{1, true}, {2, 7}, {3, false}", oneClause("{{v, 0}, {v, 1}}", "[{v, 1}]", "true"), "true", "{2, 7}, {3, false}", 1)
	// Rows of one key, in the order in which they stand.
	selects(t, "{1, c}, {1, a}, {1, b}, {2, a}", oneClause("{{v, 1}, {v, 2}}", "[]", "{tup, [{v, 2}, {v, 1}]}"), "{c, 1}, {a, 1}, {b, 1}, {a, 2}", "{1, c}, {1, a}, {1, b}, {2, a}", 0)
	selects(t, "{1, c}, {1, a}, {1, b}, {2, a}", oneClause("{{v, 1}, a}", "[]", "true"), "true, true", "{1, c}, {1, b}", 2)
	selects(t, "{1, a}, {1, a}, {1, b}, {1, a}", oneClause("{{v, 1}, a}", "[]", "true"), "true, true, true", "{1, b}", 3)
	selects(t, "{1, a}, {1, a}, {1, b}, {1, a}", oneClause("{{v, 1}, b}", "[]", "true"), "true", "{1, a}, {1, a}, {1, a}", 1)
	selects(t, "{[], 1}, {[1], 1}, {[2], 2}, {<<>>, 1}, {<<0>>, 2}", oneClause("{{v, 1}, 1}", "[{is_list, {v, 1}}]", "true"), "true, true", "{[2], 2}, {<<>>, 1}, {<<0>>, 2}", 2)
}

// An answer that is not right is no true one: TabSelect tells it, TabPrune leaves the row where it is.
func TestAnswersThatAreTooLargeP13(t *testing.T) {
	spec := term("[{{{v, 1}, gone}, [], true}, {{{v, 1}, {v, 2}}, [], [{v, 2}, {v, 2}]}]")
	small, large := list(num(1)), many(num(1), 1500)
	for _, rows := range [][]impl.Term{
		{tuple(num(1), large)},
		{tuple(num(1), small), tuple(num(2), large), tuple(num(3), atom("gone"))},
		{tuple(num(1), large), tuple(num(2), small), tuple(num(3), atom("gone"))},
		{tuple(num(1), atom("gone")), tuple(num(2), small), tuple(num(3), large)},
	} {
		for _, kind := range tableTypes {
			tab := tableOf(kind, rows...)
			if told, code := tabSelect(t, tab, spec); code != impl.ErrFull || len(told) > 0 {
				t.Error(kind, len(rows), told, code)
			}
			if left, n, code := tabPrune(t, tab, spec); code != impl.OK || n != len(rows)/2 || len(left.Rows) != len(rows)-n {
				t.Error(kind, len(rows), n, code)
			}
			// No table, or no question: that is told first.
			if told, code := tabSelect(t, tableOf(kind, slices.Concat(rows, []impl.Term{tuple(num(0))})...), spec); code != impl.ErrBad || len(told) > 0 {
				t.Error(kind, told, code)
			}
			if told, code := tabSelect(t, tab, list(append(spec.Kids[:2:2], atom("a"))...)); code != impl.ErrBad || len(told) > 0 {
				t.Error(kind, told, code)
			}
		}
	}
}

// As many rows as there may be, each with an answer that is nearly as large as it may be.
func TestSelectOfManyRowsP13(t *testing.T) {
	var rows []impl.Term
	for i := range 500 {
		rows = append(rows, tuple(num(i), many(num(i), 600)))
	}
	for _, kind := range tableTypes {
		told, code := impl.TabSelect(tableOf(kind, rows...), term(oneClause("{{v, 1}, {v, 2}}", "[]", "{tup, [{v, 1}, {v, 2}, {v, 2}, {v, 2}]}")))
		if code != impl.OK || len(told) != 500 {
			t.Fatal(kind, len(told), code)
		}
		for i, v := range told {
			if big := many(num(i), 600); !same(v, tuple(num(i), big, big, big)) {
				t.Fatal(kind, i)
			}
		}
		left, n, code := impl.TabPrune(tableOf(kind, rows...), term(oneClause("{{v, 1}, {v, 2}}", "[{ge, {v, 1}, 100}]", "true")))
		if code != impl.OK || n != 400 || !sameTable(left, tableOf(kind, rows[:100]...)) {
			t.Error(kind, n, code)
		}
	}
}

// The lists of an answer that are alike are not the same.
func TestAnswersOfTablesShareNothing(t *testing.T) {
	row := term("{[1, 2], {3, [4]}, #{a => [5]}, #f1{[6]}}")
	spec := term(oneClause("{{v, 1}, {v, 2}, {v, 3}, {v, 4}}", "[]", "[{v, 1}, {v, 1}, {row}, {row}, {tup, [{v, 2}, {v, 3}, {v, 4}, {v, 2}, {v, 3}, {v, 4}]}]"))
	if v, says, code := specRun(t, spec, row); !says || code != impl.OK || len(v.Kids) != 5 {
		t.Error(v, says, code)
	}
	tab := tableOf(impl.TbLog, row, row, row)
	if told, code := tabSelect(t, tab, spec); code != impl.OK || len(told) != 3 {
		t.Error(told, code)
	}
	tabGet(t, tab, row.Kids[0])
	tabPut(t, tab, row)
	tabPut(t, tableOf(impl.TbSet, row), row)
	tabPut(t, tableOf(impl.TbBag, row), row)
	tabDrop(t, tab, num(1))
	tabPrune(t, tab, spec)
	// A row that is the argument's own twice.
	again, code := impl.TabPut(tab, tab.Rows[0])
	if code != impl.OK || len(again.Rows) != 4 {
		t.Fatal(again, code)
	}
	keepsApart(t, "TabPut of a row of the table", tab.Rows, again.Rows)
}

// A question may be asked by many at once.
func TestQuestionsAreKeptByNobody(t *testing.T) {
	t.Parallel()
	spec := term("[{{{v, 1}, {v, 2}}, [{lt, {v, 1}, {v, 2}}], [{v, 2}, {v, 1}]}]")
	first, _, _ := impl.SpecRun(spec, term("{1, 2}"))
	text, _ := impl.SpecModule(spec)
	for range 20 {
		if v, says, code := impl.SpecRun(spec, term("{2, 1}")); !zero(v) || says || code != impl.OK {
			t.Fatal(v, says, code)
		}
		v, says, code := impl.SpecRun(spec, term("{1, 2}"))
		again, _ := impl.SpecModule(spec)
		if !same(v, first) || !says || code != impl.OK || again != text || !strings.HasPrefix(text, "module spec.\n") {
			t.Fatal(v, says, code, again)
		}
	}
}
