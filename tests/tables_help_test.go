package tests

import (
	"slices"
	"strings"
	"testing"

	"loop.example/g00019/impl"
)

// roomyRow is a copy of a row in which each list has room behind it.
func roomyRow(row []impl.Term) []impl.Term {
	room := make([]impl.Term, 0, len(row)+2)
	for _, x := range row {
		x.Kids = roomyRow(x.Kids)
		room = append(room, x)
	}
	for i := range room[len(row):cap(room)] {
		room[len(row):cap(room)][i] = num(-7)
	}
	return room
}

// wideRow is a copy of a row with what stands in the room behind each of its lists.
func wideRow(row []impl.Term) []impl.Term {
	wide := slices.Clone(row[:cap(row)])
	for i := range row {
		wide[i].Kids = wideRow(wide[i].Kids)
	}
	return wide
}

// cells is the places of all elements of a row and of the lists in it, with the room behind each.
func cells(row []impl.Term) []*impl.Term {
	var places []*impl.Term
	for i := range row[:cap(row)] {
		places = append(places, &row[:cap(row)][i])
	}
	for _, x := range row {
		places = append(places, cells(x.Kids)...)
	}
	return places
}

// keepsApart asks that no list of an answer lies where another one does, or one of what was given.
func keepsApart(t *testing.T, what string, given []impl.Term, answer []impl.Term) {
	t.Helper()
	taken := map[*impl.Term]bool{}
	for _, place := range cells(given) {
		taken[place] = true
	}
	for _, place := range cells(answer) {
		if taken[place] {
			t.Fatalf("%s: the answer shares memory, with what is given or within", what)
		}
		taken[place] = true
	}
}

// reply is what a function of this chapter answers: a text or terms, a number or whether it says anything, and a code.
type reply struct {
	text string
	row  []impl.Term
	n    int
	code int
}

func sameReply(a, b reply) bool {
	return a.text == b.text && sameRow(a.row, b.row) && a.n == b.n && a.code == b.code
}

// replies asks what a function answers of terms (the rows of a table and others): what the words say; into the terms and
// the room behind them nothing is written, and the answer shares no memory with them.
func replies(t *testing.T, what string, given []impl.Term, face func(given []impl.Term) reply, words func(given []impl.Term) reply) reply {
	t.Helper()
	room := roomyRow(given)
	before := wideRow(room)
	got := face(room)
	if !sameRow(wideRow(room), before) {
		t.Fatalf("%s writes into %v, or behind it", what, given)
	}
	want := words(given)
	if !sameReply(got, want) {
		t.Fatalf("%s of %s\nis %q %s, %d, code %d\nby the words %q %s, %d, code %d", what, texts(given), got.text, texts(got.row), got.n, got.code, want.text, texts(want.row), want.n, want.code)
	}
	keepsApart(t, what, room, got.row)
	return got
}

// texts is terms as a message tells them.
func texts(row []impl.Term) string {
	var all []string
	for _, x := range row {
		s, code := impl.TermShow(x)
		if code != impl.OK {
			s = "?"
		}
		all = append(all, s)
	}
	return strings.Join(all, " ")
}

// whether is what a function that only says yes or no answers.
func whether(is bool) reply {
	if is {
		return reply{n: 1}
	}
	return reply{}
}

func isSpec(t *testing.T, spec impl.Term) bool {
	t.Helper()
	return replies(t, "SpecOK", []impl.Term{spec},
		func(given []impl.Term) reply { return whether(impl.SpecOK(given[0])) },
		func(given []impl.Term) reply { return whether(specOKByWords(given[0])) }).n == 1
}

func specReply(v impl.Term, says bool, code int) reply {
	r := whether(says)
	r.row, r.code = []impl.Term{v}, code
	return r
}

// specRun is what SpecRun answers. The question's module has to say the same.
func specRun(t *testing.T, spec, row impl.Term) (impl.Term, bool, int) {
	t.Helper()
	r := replies(t, "SpecRun", []impl.Term{spec, row},
		func(given []impl.Term) reply { return specReply(impl.SpecRun(given[0], given[1])) },
		func(given []impl.Term) reply { return specReply(specRunByWords(given[0], given[1])) })
	if r.code != impl.ErrBad {
		moduleSays(t, spec, row, r)
	}
	return r.row[0], r.n == 1, r.code
}

func specModule(t *testing.T, spec impl.Term) (string, int) {
	t.Helper()
	r := replies(t, "SpecModule", []impl.Term{spec},
		func(given []impl.Term) reply {
			text, code := impl.SpecModule(given[0])
			return reply{text: text, code: code}
		},
		func(given []impl.Term) reply {
			text, code := specModuleByWords(given[0])
			return reply{text: text, code: code}
		})
	return r.text, r.code
}

// moduleOfSpec is a question's module: parsed, linted, compiled, sound and polished; not when it has no text.
func moduleOfSpec(t *testing.T, spec impl.Term) (impl.Code, bool) {
	t.Helper()
	text, code := specModule(t, spec)
	if code != impl.OK {
		return impl.Code{}, false
	}
	tree := parsed(t, text)
	if again, code := impl.Print(tree); code != impl.OK || again != text {
		t.Fatalf("%s\nis printed %s, code %d", text, again, code)
	}
	if code, at := impl.Lint(tree); code != impl.OK {
		t.Fatalf("Lint of %s: code %d at %d", text, code, at)
	}
	c, wrong := impl.Compile(tree)
	if wrong != impl.OK {
		t.Fatalf("Compile of %s: code %d", text, wrong)
	}
	if wrong, at := impl.Verify(c); wrong != impl.OK {
		t.Fatalf("Verify of %s: code %d at %d", text, wrong, at)
	}
	less, wrong := impl.Polish(c)
	if wrong != impl.OK {
		t.Fatalf("Polish of %s: code %d", text, wrong)
	}
	return less, true
}

// moduleSays asks that a question's module, run, says of a row what SpecRun said.
func moduleSays(t *testing.T, spec, row impl.Term, r reply) {
	t.Helper()
	if c, is := moduleOfSpec(t, spec); is {
		codeSays(t, c, spec, row, r)
	}
}

func codeSays(t *testing.T, c impl.Code, spec, row impl.Term, r reply) {
	t.Helper()
	want := "no"
	v := tuple(atom("yes"), r.row[0])
	switch {
	case r.code == impl.ErrFull || r.n == 1 && !impl.TermOK(v):
		want = "error system_limit"
	case r.n == 1:
		want = shown(impl.Answer{V: v})
	}
	a, wrong := impl.Run(c, "m", []impl.Term{row}, impl.MaxFuel)
	isSame := shown(a) == want
	if want != "no" && want != "error system_limit" {
		isSame = a.Class == impl.AnValue && same(a.V, v)
	}
	if wrong != impl.OK || !isSame {
		t.Fatalf("the module of %s\nof %s\nanswers %s, code %d, and not %s", texts([]impl.Term{spec}), texts([]impl.Term{row}), shown(a), wrong, want)
	}
}

// tableOf is a table of rows.
func tableOf(kind int, rows ...impl.Term) impl.Table { return impl.Table{Type: kind, Rows: rows} }

// readTable is a table whose rows a text shows.
func readTable(kind int, rows string) impl.Table {
	return impl.Table{Type: kind, Rows: term("[" + rows + "]").Kids}
}

func sameTable(a, b impl.Table) bool { return a.Type == b.Type && sameRow(a.Rows, b.Rows) }

func tableReply(after impl.Table, code int) reply {
	return reply{text: strings.Repeat("|", after.Type), row: after.Rows, code: code}
}

// onTable asks what a function answers of a table and another term.
func onTable(t *testing.T, what string, tab impl.Table, other impl.Term, face, words func(tab impl.Table, other impl.Term) reply) reply {
	t.Helper()
	split := func(act func(tab impl.Table, other impl.Term) reply) func(given []impl.Term) reply {
		return func(given []impl.Term) reply {
			return act(impl.Table{Type: tab.Type, Rows: given[0].Kids}, given[1])
		}
	}
	return replies(t, what+" of Type "+strings.Repeat("|", max(0, tab.Type)), []impl.Term{{Kids: tab.Rows}, other}, split(face), split(words))
}

func isTable(t *testing.T, tab impl.Table) bool {
	t.Helper()
	return onTable(t, "TabOK", tab, impl.Term{},
		func(tab impl.Table, _ impl.Term) reply { return whether(impl.TabOK(tab)) },
		func(tab impl.Table, _ impl.Term) reply { return whether(tabOKByWords(tab)) }).n == 1
}

// tabAct is a function that makes a table of a table.
type tabAct func(tab impl.Table, other impl.Term) (impl.Table, int)

func tabActed(t *testing.T, what string, tab impl.Table, other impl.Term, face, words tabAct) (impl.Table, int) {
	t.Helper()
	r := onTable(t, what, tab, other,
		func(tab impl.Table, other impl.Term) reply { return tableReply(face(tab, other)) },
		func(tab impl.Table, other impl.Term) reply { return tableReply(words(tab, other)) })
	after := impl.Table{Type: len(r.text), Rows: r.row}
	if r.code == impl.OK && !impl.TabOK(after) {
		t.Fatalf("%s of %v and %v\nis %v, which is none", what, tab, other, after)
	}
	return after, r.code
}

func tabPut(t *testing.T, tab impl.Table, row impl.Term) (impl.Table, int) {
	t.Helper()
	return tabActed(t, "TabPut", tab, row, impl.TabPut, tabPutByWords)
}

func tabDrop(t *testing.T, tab impl.Table, key impl.Term) (impl.Table, int) {
	t.Helper()
	return tabActed(t, "TabDrop", tab, key, impl.TabDrop, tabDropByWords)
}

func tabPrune(t *testing.T, tab impl.Table, spec impl.Term) (impl.Table, int, int) {
	t.Helper()
	tell := func(after impl.Table, n int, code int) reply {
		r := tableReply(after, code)
		r.n = n
		return r
	}
	r := onTable(t, "TabPrune", tab, spec,
		func(tab impl.Table, spec impl.Term) reply { return tell(impl.TabPrune(tab, spec)) },
		func(tab impl.Table, spec impl.Term) reply { return tell(tabPruneByWords(tab, spec)) })
	after := impl.Table{Type: len(r.text), Rows: r.row}
	if r.code == impl.OK && !impl.TabOK(after) {
		t.Fatalf("TabPrune of %v and %v\nis %v, which is none", tab, spec, after)
	}
	return after, r.n, r.code
}

func rowReply(row []impl.Term, code int) reply { return reply{row: row, code: code} }

func tabGet(t *testing.T, tab impl.Table, key impl.Term) ([]impl.Term, int) {
	t.Helper()
	r := onTable(t, "TabGet", tab, key,
		func(tab impl.Table, key impl.Term) reply { return rowReply(impl.TabGet(tab, key)) },
		func(tab impl.Table, key impl.Term) reply { return rowReply(tabGetByWords(tab, key)) })
	return r.row, r.code
}

func tabSelect(t *testing.T, tab impl.Table, spec impl.Term) ([]impl.Term, int) {
	t.Helper()
	r := onTable(t, "TabSelect", tab, spec,
		func(tab impl.Table, spec impl.Term) reply { return rowReply(impl.TabSelect(tab, spec)) },
		func(tab impl.Table, spec impl.Term) reply { return rowReply(tabSelectByWords(tab, spec)) })
	return r.row, r.code
}

func TestConstantsOfTables(t *testing.T) {
	if impl.MaxClauses != 20 || impl.MaxVars != 20 || impl.MaxRows != 500 {
		t.Error("limits")
	}
	if impl.TbSet != 1 || impl.TbBag != 2 || impl.TbLog != 3 {
		t.Error("types")
	}
}

func TestHelpersOfTables(t *testing.T) {
	room := roomyRow([]impl.Term{list(num(1))})
	wideOne := impl.Term{Kind: impl.TmInt, N: 1, Kids: []impl.Term{num(-7), num(-7)}}
	if !sameRow(room, []impl.Term{list(num(1))}) || !sameRow(wideRow(room), []impl.Term{list(wideOne, num(-7), num(-7)), num(-7), num(-7)}) {
		t.Error(wideRow(room))
	}
	if places := cells(room); len(places) != 8 || places[0] != &room[0] { // 3, 3 and the 2 behind the Int
		t.Error(places)
	}
	if v, says, code := specRunByWords(term("[{{{v, 1}, k}, [{gt, {v, 1}, 0}], [{v, 1}, {row}]}]"), term("{2, k}")); !same(v, term("[2, {2, k}]")) || !says || code != impl.OK {
		t.Error(v, says, code)
	}
	s := specText{}
	if text := s.clause(term("{{-1, {v, 0}}, [], {tup, [{row}]}}")); text != "m((V0 = {(- 1), _})) -> {yes, {V0}}; " || s.nodes != 13 {
		t.Error(text, s.nodes)
	}
}
