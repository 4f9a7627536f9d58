package tests

import (
	"slices"
	"strings"
	"testing"

	"loop.example/g00019/impl"
)

// askRow is a row by chance, mostly of Ints, Atoms, Tuples and Lists.
func (r chance) askRow() impl.Term {
	var row []impl.Term
	for range 1 + r.Intn(4) {
		row = append(row, r.askPart(3))
	}
	if r.Intn(30) == 0 {
		return []impl.Term{list(row...), num(1), tuple(), dict(num(1), num(2))}[r.Intn(4)]
	}
	return tuple(row...)
}

func (r chance) askPart(deep int) impl.Term {
	kinds := 14
	if deep == 0 {
		kinds = 9
	}
	switch k := r.Intn(kinds); {
	case k < 3:
		return num(r.Intn(7) - 3)
	case k < 5:
		return atom(r.of("true", "false"))
	case k < 7:
		return atom(r.of("a", "b", "v", "row", "end"))
	case k == 7:
		return anyTerm(r.Rand, 1)
	case k == 8:
		return num([]int{impl.MaxInt, -impl.MaxInt, 40000000}[r.Intn(3)])
	case k == 9:
		return tuple(atom("v"), num(r.Intn(25)-2))
	}
	var row []impl.Term
	for range r.Intn(4) {
		row = append(row, r.askPart(deep-1))
	}
	if r.Intn(2) == 0 {
		return list(row...)
	}
	return tuple(row...)
}

// quester makes clauses of questions for rows.
type quester struct {
	chance
	bound bindings // what the variables of the Head stand for in the row that the clause is made for
}

func vN(n int) impl.Term { return tuple(atom("v"), num(n)) }

// head is a Head, or a part of one, that mostly fits a term.
func (r *quester) head(x impl.Term, whole bool) impl.Term {
	switch {
	case !whole && (x.Kind != impl.TmTuple && x.Kind != impl.TmList && !itselfByWords(x) || r.Intn(3) == 0):
		return r.variable(x)
	case !whole && r.Intn(25) == 0:
		return []impl.Term{num(-1), atom("a"), list(), tuple(), tuple(atom("v"), num(21))}[r.Intn(5)]
	case whole && x.Kind != impl.TmTuple:
		return tuple(vN(0))
	case x.Kind != impl.TmTuple && x.Kind != impl.TmList:
		return x
	}
	made := impl.Term{Kind: x.Kind}
	for _, kid := range x.Kids {
		made.Kids = append(made.Kids, r.head(kid, false))
	}
	if whole && varByWords(made) >= 0 {
		return tuple(vN(0), vN(0))
	}
	return made
}

// variable is one that may stand for a term, mostly.
func (r *quester) variable(x impl.Term) impl.Term {
	if r.Intn(4) == 0 {
		return vN(0)
	}
	for n, v := range r.ascending() {
		if same(v, x) && r.Intn(2) == 0 || r.Intn(40) == 0 {
			return vN(n)
		}
	}
	n := []int{1, 2, 3, 4, 5, 6, 7, 19, 20}[r.Intn(9)]
	if _, is := r.bound[n]; is {
		return vN(0)
	}
	r.bound[n] = x
	return vN(n)
}

// ascending goes through what is bound, in the order of the variables.
func (r *quester) ascending() func(yield func(int, impl.Term) bool) {
	return func(yield func(int, impl.Term) bool) {
		for n := 1; n <= 20; n++ {
			if v, is := r.bound[n]; is && !yield(n, v) {
				return
			}
		}
	}
}

// known is a variable that stands for a term that is as asked, if there is one.
func (r *quester) known(is func(impl.Term) bool) (impl.Term, bool) {
	var vars []impl.Term
	for n, v := range r.ascending() {
		if is(v) {
			vars = append(vars, vN(n))
		}
	}
	if len(vars) == 0 {
		return impl.Term{}, false
	}
	return vars[r.Intn(len(vars))], true
}

func isKind(kind int) func(impl.Term) bool {
	return func(x impl.Term) bool { return x.Kind == kind }
}

func op(name string, parts ...impl.Term) impl.Term {
	return tuple(append([]impl.Term{atom(name)}, parts...)...)
}

// cond is a condition that mostly is worth what is wanted: bool, int, list, tuple or any.
func (r *quester) cond(sort string, deep int) impl.Term {
	if r.Intn(15) == 0 {
		sort = r.of("bool", "int", "list", "tuple", "any")
	}
	if deep == 0 {
		return r.plainCond(sort)
	}
	switch sort {
	case "bool":
		return r.boolCond(deep - 1)
	case "int":
		switch r.Intn(5) {
		case 0:
			return op(r.of("plus", "minus", "times"), r.cond("int", deep-1), r.cond("int", deep-1))
		case 1:
			return op("amount", r.cond("int", deep-1))
		case 2:
			return op("len", r.cond("list", deep-1))
		case 3:
			return op("width", r.cond("tuple", deep-1))
		}
	case "list":
		if r.Intn(2) == 0 {
			return op("rest", r.cond("list", deep-1))
		}
	case "any":
		switch r.Intn(4) {
		case 0:
			return op("elem", r.cond("int", 0), r.cond("tuple", deep-1))
		case 1:
			return op("first", r.cond("list", deep-1))
		}
	}
	return r.plainCond(sort)
}

func (r *quester) plainCond(sort string) impl.Term {
	wanted := map[string]func(impl.Term) bool{"bool": isYesOrNo, "int": isKind(impl.TmInt), "list": isKind(impl.TmList), "tuple": isKind(impl.TmTuple), "any": func(impl.Term) bool { return true }}
	if v, is := r.known(wanted[sort]); is && r.Intn(6) > 0 {
		return v
	}
	if sort == "bool" {
		return atom(r.of("true", "true", "false"))
	}
	return []impl.Term{num(r.Intn(5) - 1), num(r.Intn(5) - 1), atom("a"), num(impl.MaxInt)}[r.Intn(4)]
}

func (r *quester) boolCond(deep int) impl.Term {
	switch r.Intn(7) {
	case 0:
		return op(r.of("eq", "ne", "lt", "le", "gt", "ge"), r.cond("int", deep), r.cond("int", deep))
	case 1:
		return op(r.of("eq", "ne", "lt", "le", "gt", "ge"), r.cond("any", deep), r.cond("any", deep))
	case 2, 3:
		return op(r.of("both", "either"), r.cond("bool", deep), r.cond("bool", deep))
	case 4:
		return op("no", r.cond("bool", deep))
	case 5:
		return op(r.of("is_integer", "is_atom", "is_tuple", "is_list"), r.cond("any", deep))
	}
	return r.plainCond("bool")
}

// holding is a condition that is mostly true of the row that the clause is made for.
func (r *quester) holding(seen map[string]int) impl.Term {
	for {
		c := r.cond("bool", r.Intn(5))
		v, up := r.bound.cond(c)
		switch {
		case up != nil:
			seen["up"]++
		case !isYesOrNo(v):
			seen["neither"]++
		case isYes(v):
			return c
		default:
			c = op("no", c)
		}
		if (up == nil && isYesOrNo(v)) || r.Intn(8) == 0 {
			return c
		}
	}
}

func (r *quester) body(deep int) impl.Term {
	kinds := 9
	if deep == 0 {
		kinds = 6
	}
	switch k := r.Intn(kinds); {
	case k == 0:
		return num(r.Intn(5) - 2)
	case k == 1:
		return atom(r.of("true", "true", "a", "row"))
	case k < 4:
		if v, is := r.known(func(impl.Term) bool { return true }); is {
			return v
		}
		return atom("no")
	case k < 6:
		return tuple(atom("row"))
	}
	var row []impl.Term
	for range r.Intn(4) {
		row = append(row, r.body(deep-1))
	}
	if r.Intn(2) == 0 {
		return list(row...)
	}
	return tuple(atom("tup"), list(row...))
}

// clauseFor is a clause that mostly counts for a row.
func (r chance) clauseFor(row impl.Term, seen map[string]int) impl.Term {
	q := &quester{r, bindings{}}
	head := q.head(row, true)
	if !(bindings{}).fit(head, row) {
		seen["unfit"]++
	}
	q.bound = bindings{}
	vars := map[int]bool{}
	headByWords(head, vars)
	q.bound.fit(head, row)
	for n := 1; n <= 20; n++ { // those that the fit did not come to
		if _, is := q.bound[n]; vars[n] && !is {
			q.bound[n] = num(n)
		}
	}
	var conds []impl.Term
	for range r.Intn(3) {
		conds = append(conds, q.holding(seen))
	}
	return tuple(head, list(conds...), q.body(3))
}

// question is a question by chance, and rows that it may be asked about.
func (r chance) question(seen map[string]int) (impl.Term, []impl.Term) {
	var clauses, rows []impl.Term
	for range 1 + r.Intn(3) {
		row := r.askRow()
		clauses = append(clauses, r.clauseFor(row, seen))
		rows = append(rows, row)
		if r.Intn(3) == 0 { // another one for the same row
			clauses = append(clauses, r.clauseFor(row, seen))
		}
	}
	return list(clauses...), append(rows, r.askRow())
}

// P12: what a question says of rows its module says, parsed, linted, compiled, sound, polished and run.
func TestModulesSayWhatQuestionsSayP12(t *testing.T) {
	t.Parallel()
	r := newChance(91)
	seen := map[string]int{}
	for range 4000 {
		spec, rows := r.question(seen)
		if !isSpec(t, spec) {
			t.Fatal(texts([]impl.Term{spec}))
		}
		c, is := moduleOfSpec(t, spec)
		if !is {
			t.Fatal(texts([]impl.Term{spec}))
		}
		for _, row := range rows {
			given := specReply(impl.SpecRun(spec, row))
			if words := specReply(specRunByWords(spec, row)); !sameReply(given, words) {
				t.Fatalf("%s of %s: %v, by the words %v", texts([]impl.Term{spec}), texts([]impl.Term{row}), given, words)
			}
			codeSays(t, c, spec, row, given)
			i, v := clauseByWords(spec, row)
			seen["clause"+string(rune('a'+i))]++ // ` is none
			seen[kindWord(v)]++
		}
	}
	tallied(t, seen, 500, "clause` clausea clauseb clausec")
	tallied(t, seen, 200, "unfit up neither tuple list atom int")
}

func kindWord(v impl.Term) string {
	return []string{"none", "int", "atom", "ref", "fun", "pid", "tuple", "map", "list", "bin"}[v.Kind]
}

// spoiltSpec is a question in which something is changed: mostly it is none then.
func (r chance) spoiltSpec(spec impl.Term) impl.Term {
	x := copiedTerm(spec)
	at := &x
	for len(at.Kids) > 0 && r.Intn(8) > 0 {
		at = &at.Kids[r.Intn(len(at.Kids))]
	}
	switch r.Intn(8) {
	case 0:
		*at = vN(r.Intn(24) - 1)
	case 1:
		*at = []impl.Term{num(1), atom("a"), atom("end"), list(), tuple(), tuple(atom("row")), tuple(atom("tup"), list()), op("eq", num(1), num(1)), pid(1), bin("a")}[r.Intn(10)]
	case 2:
		if len(at.Kids) > 0 {
			k := r.Intn(len(at.Kids))
			at.Kids = slices.Delete(at.Kids, k, k+1)
		}
	case 3:
		at.Kids = append(at.Kids, num(1))
	case 4:
		at.Kind = []int{impl.TmTuple, impl.TmList}[r.Intn(2)]
		at.N, at.S = 0, ""
	case 5:
		at.N++
	case 6:
		at.S = r.of("v", "tup", "row", "eq", "no", "elem", "len", "")
	case 7:
		if len(at.Kids) > 1 {
			at.Kids[0], at.Kids[1] = at.Kids[1], at.Kids[0]
		}
	}
	return x
}

// P12: which terms are questions, and what those say that are.
func TestSpoiltQuestionsP12(t *testing.T) {
	t.Parallel()
	r := newChance(92)
	seen := map[string]int{}
	for range 2500 {
		spec, rows := r.question(seen)
		for range 3 {
			x := r.spoiltSpec(spec)
			if !isSpec(t, x) {
				seen["none"]++
				if impl.TermOK(x) {
					seen["right"]++
				}
				if r.Intn(8) == 0 {
					refusesSpec(t, x)
				}
				continue
			}
			seen["one"]++
			specRun(t, x, rows[0])
		}
	}
	tallied(t, seen, 2000, "none right one")
}

// ledger keeps the rows of a table beside it: key by key, in the order in which they came.
type ledger struct {
	kind int
	keys []impl.Term
	rows [][]impl.Term
}

func (l *ledger) at(key impl.Term) int {
	for i, k := range l.keys {
		if same(k, key) {
			return i
		}
	}
	l.keys = append(l.keys, key)
	l.rows = append(l.rows, nil)
	return len(l.keys) - 1
}

func (l *ledger) size() int { return len(slices.Concat(l.rows...)) }

// grows tells whether there is one more when a row is put.
func (l *ledger) grows(row impl.Term) bool {
	some := l.rows[l.at(row.Kids[0])]
	switch l.kind {
	case impl.TbSet:
		return len(some) == 0
	case impl.TbBag:
		return !slices.ContainsFunc(some, func(x impl.Term) bool { return same(x, row) })
	}
	return true
}

func (l *ledger) put(row impl.Term) {
	i := l.at(row.Kids[0])
	switch {
	case l.kind == impl.TbSet:
		l.rows[i] = []impl.Term{row}
	case l.grows(row):
		l.rows[i] = append(l.rows[i], row)
	}
}

// all is the rows of all keys in the order of these.
func (l *ledger) all() []impl.Term {
	var order []int
	for i := range l.keys {
		order = append(order, i)
	}
	slices.SortFunc(order, func(a, b int) int { return orderByWords(l.keys[a], l.keys[b]) })
	var rows []impl.Term
	for _, i := range order {
		rows = append(rows, l.rows[i]...)
	}
	return rows
}

// tableKeys is keys of every Kind, some of them nearly alike.
func tableKeys() []impl.Term {
	var keys []impl.Term
	for _, s := range strings.Split("0; 1; -1; 256; a; b; aa; #r0; #r1; #p0; #p1; #f0{}; #f1{}; #f1{a}; {}; {0}; {1}; {0, 0}; {a, 1}; #{}; #{0 => 1}; #{0 => 2}; #{1 => 0}; []; [0]; [0, 1]; [1]; [a]; <<>>; <<0>>; <<0, 1>>; <<97>>", "; ") {
		keys = append(keys, term(s))
	}
	long := func(n int) impl.Term { return tuple(bin(strings.Repeat("k", 90)), num(n)) }
	return append(keys, long(1), long(2), long(0))
}

// tableRow is a row by chance, with a key of few.
func (r chance) tableRow(keys []impl.Term) impl.Term {
	row := []impl.Term{keys[r.Intn(len(keys))]}
	for range r.Intn(3) {
		row = append(row, []impl.Term{num(r.Intn(3)), num(-1), atom(r.of("a", "b", "true")), list(num(1)), tuple()}[r.Intn(5)])
	}
	return tuple(row...)
}

// P13: tables of each Type that grow by chance, with their rows kept beside.
func TestTablesGrowP13(t *testing.T) {
	t.Parallel()
	for _, kind := range tableTypes {
		r := newChance(int64(93 + kind))
		seen := map[string]int{}
		for range 25 {
			r.growsTable(t, kind, seen)
		}
		tallied(t, seen, 40, "put dropped nothing got select pruned left")
		if kind != impl.TbLog {
			tallied(t, seen, 100, "there")
		}
	}
}

func (r chance) growsTable(t *testing.T, kind int, seen map[string]int) {
	t.Helper()
	keys := tableKeys()
	if r.Intn(2) == 0 { // few keys, and many rows of each
		r.Shuffle(len(keys), func(i, k int) { keys[i], keys[k] = keys[k], keys[i] })
		keys = keys[:4]
	}
	tab, l := impl.Table{Type: kind}, &ledger{kind: kind}
	for range 60 {
		switch r.Intn(12) {
		case 0:
			tab = r.dropsKey(t, tab, l, keys, seen)
		case 1:
			tab = r.prunes(t, tab, l, seen)
		default:
			before := l.size()
			row := r.tableRow(keys)
			after, code := tabPut(t, tab, row)
			if l.put(row); code != impl.OK {
				t.Fatal(code)
			}
			tab = after
			seen["put"]++
			if l.size() == before {
				seen["there"]++
			}
		}
		if !isTable(t, tab) || !sameTable(tab, tableOf(kind, l.all()...)) {
			t.Fatalf("%v\nand beside it %v", tab, l.all())
		}
		key := keys[r.Intn(len(keys))]
		if rows, code := tabGet(t, tab, key); code != impl.OK || !sameRow(rows, l.rows[l.at(key)]) {
			t.Fatal(key, rows, code)
		} else if len(rows) > 1 || kind == impl.TbSet && len(rows) == 1 {
			seen["got"]++
		}
	}
}

func (r chance) dropsKey(t *testing.T, tab impl.Table, l *ledger, keys []impl.Term, seen map[string]int) impl.Table {
	t.Helper()
	key := keys[r.Intn(len(keys))]
	after, code := tabDrop(t, tab, key)
	if code != impl.OK {
		t.Fatal(code)
	}
	i := l.at(key)
	if len(l.rows[i]) == 0 {
		seen["nothing"]++
	} else {
		seen["dropped"]++
	}
	l.rows[i] = nil
	return after
}

// prunes takes out the rows of which a question by chance says true. Those that are left
// and those that are gone are all rows, and asked once more none that is left says true.
func (r chance) prunes(t *testing.T, tab impl.Table, l *ledger, seen map[string]int) impl.Table {
	t.Helper()
	spec := term(r.of(
		"[{{{v, 1}}, [], true}, {{{v, 1}, {v, 2}}, [{is_atom, {v, 2}}], {v, 2}}]",
		"[{{{v, 1}, {v, 2}}, [{eq, {v, 2}, 1}], true}, {{{v, 1}, {v, 2}}, [], {v, 1}}]",
		"[{{{v, 1}, {v, 2}, {v, 2}}, [], true}, {{{v, 1}, {v, 2}, {v, 3}}, [{gt, {v, 2}, {v, 3}}], {tup, [{row}]}}]",
		"[{{{v, 1}}, [{is_tuple, {v, 1}}], true}, {{{v, 1}, {v, 2}}, [{lt, {plus, {v, 2}, 1}, 2}], true}, {{{v, 1}, {v, 0}}, [], [{row}, {v, 1}]}]",
		"[{{[{v, 1}], {v, 0}}, [], true}, {{{v, 1}, {v, 0}, {v, 0}}, [{either, {eq, {v, 1}, 1}, {is_list, {v, 1}}}], true}, {{{v, 1}}, [false], true}]"))
	told, code := tabSelect(t, tab, spec)
	if code != impl.OK {
		t.Fatal(code)
	}
	after, gone, code := tabPrune(t, tab, spec)
	if code != impl.OK || gone != len(tab.Rows)-len(after.Rows) {
		t.Fatal(gone, code)
	}
	yes := 0
	for _, v := range told {
		if isYes(v) {
			yes++
		}
	}
	if yes != gone {
		t.Fatal(told, gone)
	}
	for i := range l.rows {
		l.rows[i] = slices.DeleteFunc(l.rows[i], func(x impl.Term) bool {
			_, v := clauseByWords(spec, x)
			return isYes(v)
		})
	}
	if again, n, code := tabPrune(t, after, spec); n != 0 || code != impl.OK || !sameTable(again, after) {
		t.Fatal(again, n, code)
	}
	seen["select"] += len(told)
	seen["pruned"] += gone
	seen["left"] += len(after.Rows)
	return after
}

// spoiltTable is a table with something changed in it.
func (r chance) spoiltTable(tab impl.Table) impl.Table {
	rows := slices.Clone(tab.Rows)
	if len(rows) < 2 {
		return impl.Table{Type: r.Intn(6) - 1, Rows: rows}
	}
	i, k := r.Intn(len(rows)), r.Intn(len(rows))
	switch r.Intn(7) {
	case 0:
		rows[i], rows[k] = rows[k], rows[i]
	case 1:
		rows = slices.Insert(rows, i, rows[k])
	case 2:
		rows = slices.Insert(rows, i, rows[i])
	case 3:
		rows[i] = []impl.Term{tuple(), list(num(1)), num(1), {}, tuple(num(impl.MaxInt + 1))}[r.Intn(5)]
	case 4:
		rows[i] = tuple(append([]impl.Term{rows[k].Kids[0]}, rows[i].Kids[1:]...)...)
	case 5:
		return impl.Table{Type: r.Intn(6) - 1, Rows: rows}
	}
	return impl.Table{Type: tab.Type, Rows: rows}
}

// P13: which tables are some, and what all functions say of those that are none.
func TestSpoiltTablesP13(t *testing.T) {
	t.Parallel()
	r := newChance(97)
	seen := map[string]int{}
	keys := tableKeys()
	for i := range 4000 {
		tab := impl.Table{Type: tableTypes[i%3]}
		for range r.Intn(12) {
			tab, _ = impl.TabPut(tab, r.tableRow(keys[:12+r.Intn(20)]))
		}
		x := r.spoiltTable(tab)
		if isTable(t, x) {
			seen["one"]++
			tabPut(t, x, r.tableRow(keys))
			continue
		}
		seen["none"]++
		refusesTable(t, x)
	}
	tallied(t, seen, 500, "one none")
}

// P13: a table that grows up to its limit and past it, row by row, with few keys and with many.
func TestTablesGrowFullP13(t *testing.T) {
	t.Parallel()
	for _, kind := range tableTypes {
		for _, many := range []int{7, 1000} {
			r := newChance(98)
			seen := map[string]int{}
			tab, l := impl.Table{Type: kind}, &ledger{kind: kind}
			for i := range 800 {
				row := tuple(num(r.Intn(many)), num(r.Intn(100)), num(i%2))
				after, code := impl.TabPut(tab, row)
				if l.size() == 500 && l.grows(row) {
					if code != impl.ErrFull || !sameTable(after, impl.Table{}) {
						t.Fatal(kind, many, i, code)
					}
					seen["full"]++
					continue
				}
				l.put(row)
				if code != impl.OK || len(after.Rows) != l.size() || i%10 == 0 && !sameTable(after, tableOf(kind, l.all()...)) {
					t.Fatal(kind, many, i, code)
				}
				tab = after
			}
			if full := seen["full"] > 0; full == (kind == impl.TbSet && many == 7) || !sameTable(tab, tableOf(kind, l.all()...)) {
				t.Error(kind, many, len(tab.Rows), seen)
			}
		}
	}
}
