package tests

import (
	"slices"
	"strings"
	"testing"

	"loop.example/g00019/impl"
)

func TestBirthP11(t *testing.T) {
	m := impl.Mem{}
	for want := range 20 {
		after, heap, code := memBirth(t, m)
		if heap != want || code != impl.OK || len(after.Heaps) != want+1 || !sameHeap(after.Heaps[want], young()) {
			t.Fatal(after, heap, code)
		}
		m = after
	}
	if after, heap, code := memBirth(t, m); code != impl.ErrFull || heap != 0 || !sameMem(after, impl.Mem{}) {
		t.Error(after, heap, code)
	}
	// The first one that is not Live becomes it, however many there are.
	for _, gone := range [][]int{{0}, {19}, {7, 8, 19}, {0, 19}} {
		m := copiedMem(m)
		for _, i := range gone {
			m.Heaps[i] = impl.Heap{}
		}
		after, heap, code := memBirth(t, m)
		if heap != gone[0] || code != impl.OK || len(after.Heaps) != 20 {
			t.Error(gone, after, heap, code)
		}
	}
	two := sharing(memOf(aged(2, obj(mmLarge, 0)), impl.Heap{}, young(obj(mmTuple))), impl.Shared{S: large("a"), Refs: 1})
	after, heap, code := memBirth(t, two)
	two.Heaps[1].Live = true
	if heap != 1 || code != impl.OK || !sameMem(after, two) {
		t.Error(after, heap, code)
	}
}

// What is put behind the words 6*65536 of an only heap, and the term's value.
func TestPutWordsP11(t *testing.T) {
	a, b := packed("a")[1], packed("b")[1]
	for text, want := range map[string]struct {
		v     int
		words [][]int
	}{
		"0":                 {0, nil},
		"-1":                {-4, nil},
		"1000000000000000":  {4000000000000000, nil},
		"-1000000000000000": {-4000000000000000, nil},
		"[]":                {2, nil},
		"a":                 {5, [][]int{{131074, 1, a}}},
		"abcdefg":           {5, [][]int{{131074, 7, 0x61626364656667}}},
		"abcdefgh":          {5, [][]int{{131075, 8, 0x61626364656667, 0x68000000000000}}},
		"#r5":               {5, [][]int{{196609, 5}}},
		"#r0":               {5, [][]int{{196609, 0}}},
		"#p7":               {5, [][]int{{327681, 7}}},
		"#f3{}":             {5, [][]int{{262145, 3}}},
		"#f3{1, []}":        {5, [][]int{{262147, 3, 4, 2}}},
		"#f3{a, b}":         {29, [][]int{{131074, 1, a}, {131074, 1, b}, {262147, 3, 5, 17}}},
		"{}":                {5, [][]int{{393216}}},
		"{1, []}":           {5, [][]int{{393218, 4, 2}}},
		"{{}, {1}}":         {17, [][]int{{393216}, {393217, 4}, {393218, 5, 9}}},
		"{{{#r1}}}":         {29, [][]int{{196609, 1}, {393217, 5}, {393217, 13}, {393217, 21}}},
		"{a, a}":            {29, [][]int{{131074, 1, a}, {131074, 1, a}, {393218, 5, 17}}},
		"#{}":               {5, [][]int{{458752}}},
		"#{1 => 2}":         {5, [][]int{{458754, 4, 8}}},
		"#{a => #r1, 2 => b}": {37, [][]int{{131074, 1, b}, {131074, 1, a}, {196609, 1},
			{458756, 8, 5, 17, 29}}},
		"[1]":                                    {5, [][]int{{524290, 4, 2}}},
		"[1, 2]":                                 {17, [][]int{{524290, 8, 2}, {524290, 4, 5}}},
		"[1, 2, 3]":                              {29, [][]int{{524290, 12, 2}, {524290, 8, 5}, {524290, 4, 17}}},
		"[a, b]":                                 {41, [][]int{{131074, 1, a}, {131074, 1, b}, {524290, 17, 2}, {524290, 5, 29}}},
		"[[1, 2], []]":                           {41, [][]int{{524290, 8, 2}, {524290, 4, 5}, {524290, 2, 2}, {524290, 17, 29}}},
		"[[1], [[2]]]":                           {53, [][]int{{524290, 4, 2}, {524290, 8, 2}, {524290, 17, 2}, {524290, 29, 2}, {524290, 5, 41}}},
		"<<>>":                                   {5, [][]int{{589825, 0}}},
		"<<255>>":                                {5, [][]int{{589826, 1, 255 << 48}}},
		"<<0>>":                                  {5, [][]int{{589826, 1, 0}}},
		"<<1, 2, 3, 4, 5, 6, 7>>":                {5, [][]int{{589826, 7, 0x01020304050607}}},
		"<<255, 255, 255, 255, 255, 255, 255>>":  {5, [][]int{{589826, 7, 1<<56 - 1}}},
		"<<1, 2, 3, 4, 5, 6, 7, 8>>":             {5, [][]int{{589827, 8, 0x01020304050607, 8 << 48}}},
		"{#f1{a}, [#p2], #{1 => {}}, <<9>>, -3}": {77, [][]int{{131074, 1, a}, {262146, 1, 5}, {327681, 2}, {524290, 29, 2}, {393216}, {458754, 4, 49}, {589826, 1, 9 << 48}, {393221, 17, 37, 53, 65, -12}}},
	} {
		m := memOf(young(), aged(1, obj(mmTuple)))
		after, v, code := memPut(t, m, 1, term(text))
		if v != want.v || code != impl.OK || !slices.Equal(after.Heaps[1].Words, slices.Concat(append([][]int{obj(mmTuple)}, want.words...)...)) {
			t.Error(text, after, v, code)
		}
		if after.Heaps[1].Old != 1 || len(after.Heaps[0].Words) != 0 || len(after.Shared) != 0 {
			t.Error(text, after)
		}
	}
}

// Texts of all lengths at an edge, as they lie.
func TestPutTextsP11(t *testing.T) {
	for _, n := range []int{0, 1, 6, 7, 8, 13, 14, 15, 56, 57, 62, 63, 64, 65, 66, 70, 3999, 4000} {
		s := strings.Repeat("\xfe\x01\x00", 1400)[:n]
		m, v, code := memPut(t, memOf(young()), 0, bin(s))
		want, shared := impl.Mem{Heaps: []impl.Heap{young(binObj(s))}}, n > 64
		if shared {
			want = sharing(memOf(young(obj(mmLarge, 0))), impl.Shared{S: s, Refs: 1})
		}
		if code != impl.OK || v != 1 || !sameMem(m, want) {
			t.Error(n, m, v, code)
		}
	}
	for n := 1; n <= 30; n++ {
		s := strings.Repeat("zA_9", 8)[:n]
		if m, v, code := memPut(t, memOf(young()), 0, atom(s)); code != impl.OK || v != 1 || !slices.Equal(m.Heaps[0].Words, atomObj(s)) {
			t.Error(n, m, v, code)
		}
	}
}

// Which Shareds large Bins get.
func TestPutSharedP11(t *testing.T) {
	a, b := bin(large("a")), bin(large("b"))
	m, v, code := memPut(t, memOf(young()), 0, tuple(a, b, a))
	want := sharing(memOf(young(obj(mmLarge, 0), obj(mmLarge, 1), obj(mmLarge, 2), obj(mmTuple, 1, 9, 17))),
		impl.Shared{S: a.S, Refs: 1}, impl.Shared{S: b.S, Refs: 1}, impl.Shared{S: a.S, Refs: 1})
	if code != impl.OK || v != 25 || !sameMem(m, want) {
		t.Error(m, v, code)
	}
	// Free ones from the first on, then more.
	held := impl.Shared{S: large("h"), Refs: 1}
	m = sharing(memOf(young(obj(mmLarge, 1), obj(mmLarge, 3)), young()), impl.Shared{}, held, impl.Shared{}, held, impl.Shared{})
	for i, want := range []int{0, 2, 4, 5, 6} {
		var code int
		m, v, code = memPut(t, m, 1, []impl.Term{a, b}[i%2])
		if code != impl.OK || v != objV(2*i) || m.Heaps[1].Words[2*i+1] != want || m.Shared[want] != (impl.Shared{S: []string{a.S, b.S}[i%2], Refs: 1}) {
			t.Fatal(m, v, code)
		}
	}
	// A List's last element takes its own behind the first's, a Map's in the order of its keys.
	m, _, _ = memPut(t, memOf(young()), 0, list(a, dict(num(1), b, num(2), a), b))
	for i, s := range []string{a.S, b.S, a.S, b.S} {
		if m.Shared[i].S != s {
			t.Error(i, m.Shared)
		}
	}
}

// MaxShared met exactly and passed by one.
func TestPutSharedFullP11(t *testing.T) {
	a := bin(large("a"))
	words := func(n int) []int {
		var row []int
		for i := range n {
			row = append(row, obj(mmLarge, i)...)
		}
		return row
	}
	of := func(n int, free int) impl.Mem {
		m := sharing(memOf(young(words(n)), young()), slices.Repeat([]impl.Shared{{S: large("h"), Refs: 1}}, n)...)
		m.Shared = append(m.Shared, make([]impl.Shared, free)...)
		return m
	}
	for _, x := range []struct{ held, free, puts, code int }{
		{199, 0, 1, impl.OK}, {199, 1, 1, impl.OK}, {198, 0, 2, impl.OK}, {198, 1, 2, impl.OK}, {0, 200, 200, impl.OK}, {0, 0, 200, impl.OK},
		{200, 0, 1, impl.ErrFull}, {199, 0, 2, impl.ErrFull}, {199, 1, 2, impl.ErrFull}, {0, 200, 201, impl.ErrFull}, {0, 0, 201, impl.ErrFull}, {200, 0, 0, impl.OK},
	} {
		row := slices.Repeat([]impl.Term{a}, x.puts)
		for _, in := range []impl.Term{tuple(row...), list(row...)} {
			if m, v, code := memPut(t, of(x.held, x.free), 1, in); code != x.code || code == impl.OK && len(m.Shared) != max(x.held+x.puts, x.held+x.free) || code != impl.OK && (v != 0 || !sameMem(m, impl.Mem{})) {
				t.Error(x, len(m.Shared), v, code)
			}
		}
	}
}

// MaxWords met exactly and passed by one, by terms of each Kind.
func TestPutFullP11(t *testing.T) {
	t.Parallel()
	for text, size := range map[string]int{
		"1": 0, "[]": 0, "{}": 1, "#{}": 1, "{1}": 2, "#f0{}": 2, "#r0": 2, "#p0": 2, "<<>>": 2, "a": 3, "<<1>>": 3, "[1]": 3, "#{1 => 2}": 3, "abcdefgh": 4, "[1, 2]": 6, "{a}": 5, "[[1]]": 6,
	} {
		for _, short := range []int{0, 1} {
			m := memOf(young(times(30000-size+short, obj(mmTuple))), young())
			if short == 1 && size == 0 {
				continue
			}
			after, v, code := memPut(t, m, 0, term(text))
			if short == 0 && (code != impl.OK || len(after.Heaps[0].Words) != 30000) || short == 1 && (code != impl.ErrFull || v != 0 || !sameMem(after, impl.Mem{})) {
				t.Error(text, short, v, code)
			}
			// Another heap has room.
			if _, _, code := memPut(t, m, 1, term(text)); code != impl.OK {
				t.Error(text, code)
			}
		}
	}
	// The largest of all terms, and one that is larger in words.
	for n, want := range map[int]int{30000 - 1999*3: impl.OK, 30001 - 1999*3: impl.ErrFull} {
		if _, _, code := memPut(t, memOf(aged(n, times(n, obj(mmTuple)))), 0, many(num(1), 1999)); code != want {
			t.Error(n, code)
		}
	}
	wide := many(bin(strings.Repeat("w", 64)), 1999)
	for n, want := range map[int]int{30000 - 1999*15: impl.OK, 30001 - 1999*15: impl.ErrFull, 30000: impl.ErrFull} {
		if _, _, code := memPut(t, memOf(young(times(n, obj(mmTuple)))), 0, wide); code != want {
			t.Error(n, code)
		}
	}
}

// What is wrong is told ahead of what is full.
func TestPutFaultsP11(t *testing.T) {
	t.Parallel()
	full := memOf(young(times(30000, obj(mmTuple))), impl.Heap{}, young())
	for what, x := range wrongTerms() {
		for _, heap := range []int{0, 2} {
			if m, v, code := memPut(t, full, heap, x); code != impl.ErrBad || v != 0 || !sameMem(m, impl.Mem{}) {
				t.Error(what, m, v, code)
			}
		}
	}
	for _, heap := range []int{-1, 1, 3, 1 << 60, -1 << 63} {
		if m, v, code := memPut(t, full, heap, term("{}")); code != impl.ErrBad || v != 0 || !sameMem(m, impl.Mem{}) {
			t.Error(heap, m, v, code)
		}
	}
	if _, _, code := memPut(t, full, 0, term("{}")); code != impl.ErrFull {
		t.Error(code)
	}
	if _, _, code := memPut(t, impl.Mem{}, 0, num(1)); code != impl.ErrBad {
		t.Error(code)
	}
}

// P11: terms of all sorts that are put one behind the other stay what they are.
func TestPutTermsP11(t *testing.T) {
	t.Parallel()
	m, _, _ := memBirth(t, impl.Mem{})
	var terms []impl.Term
	var values []int
	for _, x := range anyTerms(150) {
		after, v, code := memPut(t, m, 0, x)
		if code == impl.ErrFull {
			continue
		}
		m, terms, values = after, append(terms, x), append(values, v)
	}
	for i, x := range terms {
		if got, code := memGet(t, m, 0, values[i]); code != impl.OK || !same(got, x) {
			t.Error(x, got, code)
		}
	}
	for what, e := range edgeTerms() {
		if _, _, code := memPut(t, memOf(young()), 0, e.t); code != impl.OK {
			t.Error(what, code)
		}
	}
	if len(terms) < 150 {
		t.Error(len(terms))
	}
}
