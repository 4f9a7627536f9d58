package tests

import (
	"slices"
	"strings"
	"testing"

	"loop.example/g00019/impl"
)

var tableTypes = []int{impl.TbSet, impl.TbBag, impl.TbLog}

// areTables asks for each Type whether rows are those of a table: types names those of which they are.
func areTables(t *testing.T, types string, rows ...string) {
	t.Helper()
	for _, s := range rows {
		for _, kind := range tableTypes {
			want := strings.Contains(types, []string{"", "set", "bag", "log"}[kind])
			tab := readTable(kind, s)
			if isTable(t, tab) != want {
				t.Errorf("is %s a table of Type %d? not %v", s, kind, want)
			}
			if !want {
				refusesTable(t, tab)
			}
		}
	}
}

// refusesTable asks for ErrBad of all that want a table.
func refusesTable(t *testing.T, tab impl.Table) {
	t.Helper()
	if after, code := impl.TabPut(tab, tuple(num(1))); code != impl.ErrBad || !sameTable(after, impl.Table{}) {
		t.Error("TabPut", after, code)
	}
	if rows, code := impl.TabGet(tab, num(1)); code != impl.ErrBad || len(rows) > 0 {
		t.Error("TabGet", rows, code)
	}
	if after, code := impl.TabDrop(tab, num(1)); code != impl.ErrBad || !sameTable(after, impl.Table{}) {
		t.Error("TabDrop", after, code)
	}
	spec := term(oneClause("{{v, 0}}", "[]", "true"))
	if rows, code := impl.TabSelect(tab, spec); code != impl.ErrBad || len(rows) > 0 {
		t.Error("TabSelect", rows, code)
	}
	if after, n, code := impl.TabPrune(tab, spec); code != impl.ErrBad || n != 0 || !sameTable(after, impl.Table{}) {
		t.Error("TabPrune", after, n, code)
	}
}

func TestRightTablesP13(t *testing.T) {
	areTables(t, "set bag log", "", "{1}", "{1, 2, 3}", "{{}}", "{1}, {2}", "{1}, {2}, {3}", "{1, 9}, {2, 0}", "{-1}, {0}", "{1, a, b}, {2}, {3, c}")
	areTables(t, "set bag log", "{1}, {a}, {#r1}, {#f1{}}, {#p1}, {{}}, {#{}}, {[]}, {<<>>}", "{#f1{}}, {#f1{1}}, {#f2{}}", "{{1}}, {{0, 0}}", "{[1]}, {[1, 0]}, {[2]}", "{<<1>>}, {<<1, 0>>}, {<<2>>}", "{#{1 => 2}}, {#{1 => 3}}, {#{2 => 0}}")
	// Keys that fall.
	areTables(t, "", "{2}, {1}", "{1}, {3}, {2}", "{2}, {1}, {3}", "{a}, {1}", "{0}, {-1}", "{<<>>}, {[]}", "{{0, 0}}, {{1}}", "{[1, 0]}, {[1]}", "{1}, {2}, {1}", "{1, 2}, {0, 3}", "{#{2 => 0}}, {#{1 => 3}}")
	// Two rows of one key.
	areTables(t, "bag log", "{1, a}, {1, b}", "{1, b}, {1, a}", "{1}, {1, a}", "{1, a}, {1}", "{0}, {1, b}, {1, a}, {2}", "{[], 1}, {[], 0}, {[], 2}", "{1, 2}, {1, 1}, {1, 3}, {1, 0}", "{<<>>, 1}, {<<>>, 2}")
	// Two rows alike, side by side or not.
	areTables(t, "log", "{1}, {1}", "{1, a}, {1, a}", "{1, a}, {1, b}, {1, a}", "{0}, {1, a}, {1, b}, {1, c}, {1, a}, {2}", "{1, [#{a => 2}]}, {1, []}, {1, [#{a => 2}]}", "{1, b}, {1, a}, {1, c}, {1, d}, {1, a}", "{1}, {1}, {1}", "{{}}, {{}}")
	// Rows that are none.
	areTables(t, "", "{}", "{}, {1}", "{1}, {}", "[]", "[1]", "1", "a", "{1}, a", "{1}, [1]", "{1}, [2]", "#f1{1}", "#{1 => 2}", "<<1>>", "#p1", "#r1", "{1}, <<2>>")
}

func TestTypesOfTablesP13(t *testing.T) {
	for _, rows := range []string{"", "{1}", "{1}, {2}"} {
		for _, kind := range []int{-1 << 63, -2, -1, 0, 4, 5, 7, 1<<63 - 1} {
			tab := readTable(kind, rows)
			if impl.TabOK(tab) {
				t.Error("a table of Type", kind)
			}
			refusesTable(t, tab)
		}
		for _, kind := range tableTypes {
			if !isTable(t, readTable(kind, rows)) {
				t.Error("no table of Type", kind)
			}
		}
	}
	if impl.TabOK(impl.Table{}) {
		t.Error("the zero table")
	}
}

// numbered is n rows with the keys 0, 1 ..
func numbered(n int) []impl.Term {
	var rows []impl.Term
	for i := range n {
		rows = append(rows, tuple(num(i), atom("x")))
	}
	return rows
}

// alongside is n rows of one key.
func alongside(n int) []impl.Term {
	var rows []impl.Term
	for i := range n {
		rows = append(rows, tuple(atom("k"), num(n-i)))
	}
	return rows
}

func TestHowManyRowsP13(t *testing.T) {
	for _, kind := range tableTypes {
		for _, n := range []int{499, 500, 501, 502} {
			tab := tableOf(kind, numbered(n)...)
			if isTable(t, tab) != (n <= 500) {
				t.Error(kind, n)
			}
			if n > 500 {
				refusesTable(t, tab)
			}
		}
	}
	for _, kind := range []int{impl.TbBag, impl.TbLog} {
		if !isTable(t, tableOf(kind, alongside(500)...)) || isTable(t, tableOf(kind, alongside(501)...)) {
			t.Error("rows of one key", kind)
		}
	}
	if !isTable(t, tableOf(impl.TbLog, slices.Repeat([]impl.Term{tuple(num(1))}, 500)...)) {
		t.Error("rows alike")
	}
	if impl.TabOK(tableOf(impl.TbLog, make([]impl.Term, 10000000)...)) {
		t.Error("very many rows")
	}
}

// Terms that are not right as a row, in one, as a key and as a row that is put.
func TestWrongTermsInTablesP13(t *testing.T) {
	for what, x := range wrongTerms() {
		for _, kind := range tableTypes {
			for _, rows := range [][]impl.Term{{x}, {tuple(x)}, {tuple(num(1), x)}, {tuple(num(1)), tuple(num(2), x)}, {tuple(num(1), x), tuple(num(2))}} {
				if impl.TabOK(tableOf(kind, rows...)) {
					t.Error("a table", what, kind)
				}
				refusesTable(t, tableOf(kind, rows...))
			}
			whole := tableOf(kind, tuple(num(1)), tuple(num(2)))
			for _, row := range []impl.Term{x, tuple(x), tuple(num(1), x)} {
				if after, code := impl.TabPut(whole, row); code != impl.ErrBad || !sameTable(after, impl.Table{}) {
					t.Error("TabPut", what, after, code)
				}
			}
			if rows, code := impl.TabGet(whole, x); code != impl.ErrBad || len(rows) > 0 {
				t.Error("TabGet", what, rows, code)
			}
			if after, code := impl.TabDrop(whole, x); code != impl.ErrBad || !sameTable(after, impl.Table{}) {
				t.Error("TabDrop", what, after, code)
			}
		}
	}
}

// rowsAre asks what the rows of a table are.
func rowsAre(t *testing.T, what string, tab impl.Table, code int, want string) {
	t.Helper()
	if got := showOf(list(tab.Rows...)); code != impl.OK || got != "["+want+"]" {
		t.Errorf("%s, Type %d: %s, code %d, not %s", what, tab.Type, got, code, want)
	}
}

// puts asks what becomes of rows when one is put among them, in each Type: wants is a set, a bag, a log; - where the rows are no such table.
func puts(t *testing.T, rows, row string, wants ...string) {
	t.Helper()
	for i, kind := range tableTypes {
		tab := readTable(kind, rows)
		after, code := tabPut(t, tab, term(row))
		if wants[i] == "-" {
			if code != impl.ErrBad || !sameTable(after, impl.Table{}) {
				t.Error(rows, row, kind, after, code)
			}
			continue
		}
		if after.Type != kind {
			t.Error(rows, row, after)
		}
		rowsAre(t, row+" among "+rows, after, code, wants[i])
	}
}

func TestPutP13(t *testing.T) {
	all := func(rows, row, want string) {
		t.Helper()
		puts(t, rows, row, want, want, want)
	}
	all("", "{1}", "{1}")
	all("", "{1, a, []}", "{1, a, []}")
	all("", "{{}}", "{{}}")
	all("{1}", "{2}", "{1}, {2}")
	all("{2}", "{1}", "{1}, {2}")
	all("{1}, {3}", "{2, x}", "{1}, {2, x}, {3}")
	all("{1}, {3}", "{0, x}", "{0, x}, {1}, {3}")
	all("{1}, {3}", "{a, x}", "{1}, {3}, {a, x}")
	all("{a}, {b}, {c}", "{1}", "{1}, {a}, {b}, {c}")
	all("{1}, {#r1}, {#p1}, {[]}", "{#{}}", "{1}, {#r1}, {#p1}, {#{}}, {[]}")
	all("{1}, {#r1}, {#p1}, {[]}", "{#f1{}}", "{1}, {#r1}, {#f1{}}, {#p1}, {[]}")
	all("{{1}}, {{0, 0}}", "{{2}}", "{{1}}, {{2}}, {{0, 0}}")
	all("{[1]}, {[2]}", "{[1, 0]}", "{[1]}, {[1, 0]}, {[2]}")
	puts(t, "{1, a}", "{1, b}", "{1, b}", "{1, a}, {1, b}", "{1, a}, {1, b}")
	puts(t, "{1, b}", "{1, a}", "{1, a}", "{1, b}, {1, a}", "{1, b}, {1, a}")
	puts(t, "{1, a}", "{1, a}", "{1, a}", "{1, a}", "{1, a}, {1, a}")
	puts(t, "{1, a}", "{1}", "{1}", "{1, a}, {1}", "{1, a}, {1}")
	puts(t, "{1}", "{1, a}", "{1, a}", "{1}, {1, a}", "{1}, {1, a}")
	puts(t, "{0}, {1, a}, {2}", "{1, b}", "{0}, {1, b}, {2}", "{0}, {1, a}, {1, b}, {2}", "{0}, {1, a}, {1, b}, {2}")
	puts(t, "{0}, {1, c}, {1, b}, {2}", "{1, a}", "-", "{0}, {1, c}, {1, b}, {1, a}, {2}", "{0}, {1, c}, {1, b}, {1, a}, {2}")
	puts(t, "{0}, {1, c}, {1, b}, {2}", "{1, c}", "-", "{0}, {1, c}, {1, b}, {2}", "{0}, {1, c}, {1, b}, {1, c}, {2}")
	puts(t, "{0}, {1, c}, {1, b}, {2}", "{1, b}", "-", "{0}, {1, c}, {1, b}, {2}", "{0}, {1, c}, {1, b}, {1, b}, {2}")
	puts(t, "{1}, {1}", "{1}", "-", "-", "{1}, {1}, {1}")
	puts(t, "{#{1 => 2}, a}, {#{1 => 3}, b}", "{#{1 => 2}, c}", "{#{1 => 2}, c}, {#{1 => 3}, b}", "{#{1 => 2}, a}, {#{1 => 2}, c}, {#{1 => 3}, b}", "{#{1 => 2}, a}, {#{1 => 2}, c}, {#{1 => 3}, b}")
	for _, row := range []string{"{}", "[]", "[1]", "1", "a", "#f1{1}", "#{1 => 2}", "<<1>>", "#p1", "#r1"} {
		puts(t, "", row, "-", "-", "-")
		puts(t, "{1}", row, "-", "-", "-")
	}
}

func TestPutFullP13(t *testing.T) {
	for _, kind := range tableTypes {
		almost, full := tableOf(kind, numbered(499)...), tableOf(kind, numbered(500)...)
		for _, row := range []impl.Term{tuple(num(499)), tuple(num(-1)), tuple(atom("a")), tuple(num(1000))} {
			if after, code := tabPut(t, almost, row); code != impl.OK || len(after.Rows) != 500 {
				t.Error(kind, row, len(after.Rows), code)
			}
		}
		for _, row := range []impl.Term{tuple(num(500)), tuple(num(-1)), tuple(list())} {
			if after, code := tabPut(t, full, row); code != impl.ErrFull || !sameTable(after, impl.Table{}) {
				t.Error(kind, row, after, code)
			}
		}
		for _, i := range []int{0, 250, 499} {
			// One that takes the place of another.
			after, code := tabPut(t, full, tuple(num(i), atom("y")))
			if kind == impl.TbSet && (code != impl.OK || len(after.Rows) != 500 || !same(after.Rows[i], tuple(num(i), atom("y")))) || kind != impl.TbSet && code != impl.ErrFull {
				t.Error(kind, i, after, code)
			}
			// One that is there already.
			after, code = tabPut(t, full, full.Rows[i])
			if kind != impl.TbLog && (code != impl.OK || !sameTable(after, full)) || kind == impl.TbLog && code != impl.ErrFull {
				t.Error(kind, i, after, code)
			}
		}
		// What could be no row is told first.
		for _, row := range []impl.Term{tuple(), num(1), tuple(num(500), num(impl.MaxInt+1))} {
			if after, code := tabPut(t, full, row); code != impl.ErrBad || !sameTable(after, impl.Table{}) {
				t.Error(kind, row, after, code)
			}
		}
	}
	for _, kind := range []int{impl.TbBag, impl.TbLog} {
		full := tableOf(kind, alongside(500)...)
		if _, code := tabPut(t, full, tuple(atom("k"), num(0))); code != impl.ErrFull {
			t.Error(kind, code)
		}
		if _, code := tabPut(t, tableOf(kind, alongside(499)...), tuple(atom("k"), num(0))); code != impl.OK {
			t.Error(kind, code)
		}
	}
}

func TestGetAndDropP13(t *testing.T) {
	rows := "{0}, {1, c}, {1, b}, {1, d}, {2, x}, {a}, {#r1, 5}, {{}, 1}, {{}, 0}, {#{}}, {[1]}, {[1, 0], a}, {<<>>}"
	for key, want := range map[string][2]string{
		"0":      {"{0}", "{1, c}, {1, b}, {1, d}, {2, x}, {a}, {#r1, 5}, {{}, 1}, {{}, 0}, {#{}}, {[1]}, {[1, 0], a}, {<<>>}"},
		"1":      {"{1, c}, {1, b}, {1, d}", "{0}, {2, x}, {a}, {#r1, 5}, {{}, 1}, {{}, 0}, {#{}}, {[1]}, {[1, 0], a}, {<<>>}"},
		"2":      {"{2, x}", "{0}, {1, c}, {1, b}, {1, d}, {a}, {#r1, 5}, {{}, 1}, {{}, 0}, {#{}}, {[1]}, {[1, 0], a}, {<<>>}"},
		"#r1":    {"{#r1, 5}", "{0}, {1, c}, {1, b}, {1, d}, {2, x}, {a}, {{}, 1}, {{}, 0}, {#{}}, {[1]}, {[1, 0], a}, {<<>>}"},
		"{}":     {"{{}, 1}, {{}, 0}", "{0}, {1, c}, {1, b}, {1, d}, {2, x}, {a}, {#r1, 5}, {#{}}, {[1]}, {[1, 0], a}, {<<>>}"},
		"[1]":    {"{[1]}", "{0}, {1, c}, {1, b}, {1, d}, {2, x}, {a}, {#r1, 5}, {{}, 1}, {{}, 0}, {#{}}, {[1, 0], a}, {<<>>}"},
		"[1, 0]": {"{[1, 0], a}", "{0}, {1, c}, {1, b}, {1, d}, {2, x}, {a}, {#r1, 5}, {{}, 1}, {{}, 0}, {#{}}, {[1]}, {<<>>}"},
		"<<>>":   {"{<<>>}", "{0}, {1, c}, {1, b}, {1, d}, {2, x}, {a}, {#r1, 5}, {{}, 1}, {{}, 0}, {#{}}, {[1]}, {[1, 0], a}"},
		"3":      {"", rows}, "-1": {"", rows}, "b": {"", rows}, "x": {"", rows}, "#p1": {"", rows}, "#r5": {"", rows}, "[]": {"", rows}, "{1, c}": {"", rows}, "{0}": {"", rows}, "<<0>>": {"", rows}, "#f1{}": {"", rows}, "#{1 => 1}": {"", rows},
	} {
		for _, kind := range []int{impl.TbBag, impl.TbLog} {
			getsAndDrops(t, readTable(kind, rows), key, want[0], want[1])
		}
	}
	for _, kind := range tableTypes {
		getsAndDrops(t, readTable(kind, ""), "1", "", "")
		getsAndDrops(t, readTable(kind, "{1}"), "1", "{1}", "")
		getsAndDrops(t, readTable(kind, "{1}"), "2", "", "{1}")
		getsAndDrops(t, readTable(kind, "{1, a}, {2, b}, {3, c}"), "2", "{2, b}", "{1, a}, {3, c}")
	}
	getsAndDrops(t, readTable(impl.TbLog, "{1}, {1}, {2}, {2}"), "1", "{1}, {1}", "{2}, {2}")
	getsAndDrops(t, readTable(impl.TbLog, "{1, b}, {1, a}, {1, b}, {2}"), "1", "{1, b}, {1, a}, {1, b}", "{2}")
}

func getsAndDrops(t *testing.T, tab impl.Table, key, those, others string) {
	t.Helper()
	rows, code := tabGet(t, tab, term(key))
	rowsAre(t, "the rows with "+key, tableOf(tab.Type, rows...), code, those)
	after, code := tabDrop(t, tab, term(key))
	rowsAre(t, "the rows without "+key, after, code, others)
	if after.Type != tab.Type {
		t.Error("another Type", after)
	}
}

// Keys that are alike up to far behind their begin, and very large ones.
func TestLongKeysP13(t *testing.T) {
	long := func(last int) impl.Term {
		return tuple(slices.Concat(slices.Repeat([]impl.Term{atom("same")}, 300), []impl.Term{num(last)})...)
	}
	bytes := func(last string) impl.Term { return bin(strings.Repeat("x", 3000) + last) }
	huge := func(last int) impl.Term { return list(many(bin(strings.Repeat("y", 4000)), 1990), num(last)) }
	for _, key := range []func(n int) impl.Term{long, func(n int) impl.Term { return bytes(string(rune('a' + n))) }, huge, func(n int) impl.Term { return nest(num(n), 80) }} {
		for _, kind := range tableTypes {
			tab := impl.Table{Type: kind}
			for _, n := range []int{5, 2, 9, 2, 5, 7} {
				after, code := tabPut(t, tab, tuple(key(n), num(len(tab.Rows))))
				if code != impl.OK {
					t.Fatal(kind, n, code)
				}
				tab = after
			}
			if want := map[int]int{impl.TbSet: 4, impl.TbBag: 6, impl.TbLog: 6}[kind]; len(tab.Rows) != want {
				t.Error(kind, len(tab.Rows))
			}
			for n := range 11 {
				rows, code := tabGet(t, tab, key(n))
				after, codeToo := tabDrop(t, tab, key(n))
				if code != impl.OK || codeToo != impl.OK || len(rows)+len(after.Rows) != len(tab.Rows) {
					t.Error(kind, n, len(rows), code, len(after.Rows), codeToo)
				}
			}
		}
	}
}

// A table of rows as large as they may be, all of one key that is as large as it may be.
func TestLargeTablesP13(t *testing.T) {
	key := many(bin(strings.Repeat("z", 4000)), 1990)
	var rows []impl.Term
	for i := range 500 {
		rows = append(rows, tuple(key, num(500-i)))
	}
	for _, kind := range []int{impl.TbBag, impl.TbLog} {
		if !impl.TabOK(tableOf(kind, rows...)) {
			t.Error("no table", kind)
		}
		if got, code := impl.TabGet(tableOf(kind, rows...), key); len(got) != 500 || code != impl.OK {
			t.Error(kind, len(got), code)
		}
	}
	if impl.TabOK(tableOf(impl.TbSet, rows...)) || impl.TabOK(tableOf(impl.TbBag, append(rows[:499:499], rows[0])...)) {
		t.Error("rows alike")
	}
}
