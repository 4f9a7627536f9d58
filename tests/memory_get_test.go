package tests

import (
	"math"
	"slices"
	"strings"
	"testing"

	"loop.example/g00019/impl"
)

// listWords is a List of elements that lies from a place on, its first object first.
func listWords(from int, elements ...int) []int {
	var words []int
	for i, v := range elements {
		tail := objV(from + 3*(i+1))
		if i == len(elements)-1 {
			tail = emptyV
		}
		words = append(words, obj(mmList, v, tail)...)
	}
	return words
}

// chain is n objects, each made of the value of the one behind it; the last one of the value last.
func chain(n int, last int, of func(v int) []int) []int {
	var words []int
	for i := range n {
		at := len(words) + len(of(0))
		if i == n-1 {
			words = append(words, of(last)...)
		} else {
			words = append(words, of(objV(at))...)
		}
	}
	return words
}

// What values are, each Kind's.
func TestGetP11(t *testing.T) {
	words := slices.Concat(
		atomObj("aZ"), obj(mmRef, 7), obj(mmFun, 3), obj(mmFun, 9, intV(-1), objV(0)), obj(mmPid, 0), obj(mmTuple), // 0 3 5 7 11 13
		obj(mmTuple, emptyV, objV(3), objV(3)), obj(mmMap), obj(mmMap, intV(1), objV(0), objV(0), intV(1)), // 14 18 19
		obj(mmList, objV(3), objV(27)), obj(mmList, intV(5), emptyV), // 24 27
		binObj(""), binObj("\x00\xff1234567"), obj(mmLarge, 1), // 30 32 36
		listWords(38, intV(1), objV(24), emptyV), // 38
	)
	m := sharing(memOf(young(), impl.Heap{}, aged(14, words)), impl.Shared{}, impl.Shared{S: large("s"), Refs: 1})
	want := map[int]impl.Term{
		intV(0): num(0), intV(-5): num(-5), intV(impl.MaxInt): num(impl.MaxInt), intV(-impl.MaxInt): num(-impl.MaxInt), emptyV: list(),
		objV(0): atom("aZ"), objV(3): ref(7), objV(5): fun(3), objV(7): fun(9, num(-1), atom("aZ")), objV(11): pid(0), objV(13): tuple(),
		objV(14): tuple(list(), ref(7), ref(7)), objV(18): dict(), objV(19): dict(num(1), atom("aZ"), atom("aZ"), num(1)),
		objV(24): list(ref(7), num(5)), objV(27): list(num(5)), objV(30): bin(""), objV(32): bin("\x00\xff1234567"), objV(36): bin(large("s")),
		objV(38): list(num(1), list(ref(7), num(5)), list()), objV(41): list(list(ref(7), num(5)), list()), objV(44): list(list()),
	}
	for v := -9; v < 4*len(words)+40; v++ {
		x, is := want[v]
		if !is && v%4 == 0 {
			x, is = num(v/4), true
		}
		got, code := memGet(t, m, 2, v)
		if is && (code != impl.OK || !same(got, x)) || !is && (code != impl.ErrBad || !zero(got)) {
			t.Error(v, got, code)
		}
		delete(want, v)
	}
	for v, x := range want {
		if got, code := memGet(t, m, 2, v); code != impl.OK || !same(got, x) {
			t.Error(v, got, code)
		}
	}
}

// What is no value, or of no heap.
func TestGetFaultsP11(t *testing.T) {
	m := memOf(young(obj(mmRef, mmRef*65536), obj(mmTuple)), impl.Heap{}, young())
	for _, v := range []int{
		intV(impl.MaxInt + 1), intV(-impl.MaxInt - 1), math.MaxInt, math.MinInt, math.MinInt + 1, math.MinInt + 2, math.MinInt + 3, math.MaxInt - 1, math.MaxInt - 2, math.MaxInt - 3,
		-1, -2, -3, 3, 6, 7, 10, 11, objV(-1), objV(1), objV(3), objV(4), objV(30000), objV(1 << 60),
	} {
		if x, code := memGet(t, m, 0, v); code != impl.ErrBad || !zero(x) {
			t.Error(v, x, code)
		}
	}
	for _, heap := range []int{-1, 1, 3, 1 << 60, -1 << 63} {
		for _, v := range []int{0, emptyV, objV(0)} {
			if x, code := memGet(t, m, heap, v); code != impl.ErrBad || !zero(x) {
				t.Error(heap, v, x, code)
			}
		}
	}
	// Another heap's object is none.
	if x, code := memGet(t, m, 2, objV(0)); code != impl.ErrBad || !zero(x) {
		t.Error(x, code)
	}
}

// gets asks what the first object of words is: a code, and how many terms.
func gets(t *testing.T, what string, words []int, want int, size int) {
	t.Helper()
	x, code := memGet(t, memOf(young(words)), 0, objV(0))
	if n, _ := impl.TermSize(x); code != want || n != size {
		t.Errorf("%s: %d terms, code %d, not %d, code %d", what, n, code, size, want)
	}
}

// MaxNodes and MaxDepth met exactly and passed by one.
func TestGetLimitsP11(t *testing.T) {
	t.Parallel()
	ints := func(n int) []int { return make([]int, n) }
	gets(t, "tuple of 1999", obj(mmTuple, ints(1999)...), impl.OK, 2000)
	gets(t, "tuple of 2000", obj(mmTuple, ints(2000)...), impl.ErrFull, 0)
	gets(t, "tuple of 29999", obj(mmTuple, ints(29999)...), impl.ErrFull, 0)
	gets(t, "fun with 1999", obj(mmFun, ints(2000)...), impl.OK, 2000)
	gets(t, "fun with 2000", obj(mmFun, ints(2001)...), impl.ErrFull, 0)
	gets(t, "list of 1999", listWords(0, ints(1999)...), impl.OK, 2000)
	gets(t, "list of 2000", listWords(0, ints(2000)...), impl.ErrFull, 0)
	gets(t, "list of 9999", listWords(0, ints(9999)...), impl.ErrFull, 0)
	gets(t, "list of 1999 empty ones", listWords(0, slices.Repeat([]int{emptyV}, 1999)...), impl.OK, 2000)
	gets(t, "list of 2000 empty ones", listWords(0, slices.Repeat([]int{emptyV}, 2000)...), impl.ErrFull, 0)
	// One row of 999 that stands there twice: each counts as often as it is met.
	row := func(behind int) []int { return obj(mmTuple, ints(behind)...) }
	gets(t, "the same twice", slices.Concat(obj(mmTuple, objV(3), objV(3)), row(998)), impl.OK, 1999)
	gets(t, "the same twice and one", slices.Concat(obj(mmTuple, objV(4), objV(4), 0), row(998)), impl.OK, 2000)
	gets(t, "the same twice and two", slices.Concat(obj(mmTuple, objV(5), objV(5), 0, 0), row(998)), impl.ErrFull, 0)
	gets(t, "two to the 40", chain(40, 0, func(v int) []int { return obj(mmTuple, v, v) }), impl.ErrFull, 0)
	keys := ints(0)
	for k := range 1000 {
		keys = append(keys, intV(k), 0)
	}
	gets(t, "map of 999", obj(mmMap, keys[:1998]...), impl.OK, 1999)
	gets(t, "map of 1000", obj(mmMap, keys...), impl.ErrFull, 0)

	for what, of := range map[string]func(v int) []int{
		"tuple":         func(v int) []int { return obj(mmTuple, v) },
		"fun":           func(v int) []int { return obj(mmFun, 0, v) },
		"map's key":     func(v int) []int { return obj(mmMap, v, 0) },
		"map's value":   func(v int) []int { return obj(mmMap, 0, v) },
		"list":          func(v int) []int { return obj(mmList, v, emptyV) },
		"tuple, second": func(v int) []int { return obj(mmTuple, 0, v) },
	} {
		for _, last := range []int{intV(7), emptyV} {
			for n, want := range map[int]int{99: impl.OK, 100: impl.ErrFull} {
				if _, code := memGet(t, memOf(young(chain(n, last, of))), 0, objV(0)); code != want {
					t.Error(what, last, n, code)
				}
			}
		}
		for _, leaf := range [][]int{obj(mmTuple), obj(mmMap), obj(mmRef, 1), obj(mmFun, 1), obj(mmPid, 1), atomObj("a"), binObj("a")} {
			for n, want := range map[int]int{99: impl.OK, 100: impl.ErrFull} {
				words := append(chain(n, objV(n*len(of(0))), of), leaf...)
				if _, code := memGet(t, memOf(young(words)), 0, objV(0)); code != want {
					t.Error(what, leaf, n, code)
				}
			}
		}
	}
	// A List's elements are one deeper than it, however far behind they are.
	long := slices.Repeat([]int{emptyV}, 300)
	gets(t, "98 lists and a long one", append(chain(98, objV(98*3), func(v int) []int { return obj(mmList, v, emptyV) }), listWords(98*3, long...)...), impl.OK, 399)
	gets(t, "99 lists and a long one", append(chain(99, objV(99*3), func(v int) []int { return obj(mmList, v, emptyV) }), listWords(99*3, long...)...), impl.ErrFull, 0)
}

// Objects that lead back to themselves are no term of any size.
func TestGetLoopsP11(t *testing.T) {
	for what, words := range map[string][]int{
		"tuple of itself":                  obj(mmTuple, objV(0)),
		"tuple of itself, twice":           obj(mmTuple, objV(0), objV(0)),
		"fun with itself":                  obj(mmFun, 0, objV(0)),
		"map with itself as key":           obj(mmMap, objV(0), 0),
		"map with itself as value":         obj(mmMap, 0, objV(0)),
		"list of itself":                   obj(mmList, objV(0), emptyV),
		"list behind itself":               obj(mmList, 0, objV(0)),
		"list of itself behind itself":     obj(mmList, objV(0), objV(0)),
		"two lists behind each other":      slices.Concat(obj(mmList, 0, objV(3)), obj(mmList, emptyV, objV(0))),
		"list that ends in a ring":         slices.Concat(obj(mmList, 0, objV(3)), obj(mmList, 0, objV(6)), obj(mmList, 0, objV(3))),
		"tuple of a ring":                  slices.Concat(obj(mmTuple, 0, objV(3)), obj(mmTuple, objV(3))),
		"map whose keys fall, with itself": obj(mmMap, intV(2), 0, intV(1), objV(0)),
	} {
		gets(t, what, words, impl.ErrFull, 0)
	}
	// Beside a ring there are terms.
	m := memOf(young(obj(mmTuple, objV(0)), obj(mmTuple, 0), obj(mmTuple, objV(0), objV(2))))
	if x, code := memGet(t, m, 0, objV(2)); code != impl.OK || !same(x, tuple(num(0))) {
		t.Error(x, code)
	}
	if _, code := memGet(t, m, 0, objV(4)); code != impl.ErrFull {
		t.Error(code)
	}
}

// Maps whose keys do not rise or come twice, behind what is too large or too deep.
func TestGetMapsP11(t *testing.T) {
	for what, words := range map[string][]int{
		"keys fall":                  obj(mmMap, intV(2), 0, intV(1), 0),
		"keys alike":                 obj(mmMap, intV(1), 0, intV(1), 0),
		"keys alike, values too":     obj(mmMap, emptyV, emptyV, emptyV, emptyV),
		"last keys fall":             obj(mmMap, intV(1), 0, intV(3), 0, intV(2), 0),
		"one object as two keys":     slices.Concat(obj(mmMap, objV(5), 0, objV(5), 0), obj(mmRef, 1)),
		"two objects that are alike": slices.Concat(obj(mmMap, objV(5), 0, objV(8), 0), atomObj("a"), atomObj("a")),
		"names fall":                 slices.Concat(obj(mmMap, objV(8), 0, objV(5), 0), atomObj("a"), atomObj("b")),
		"kinds fall":                 slices.Concat(obj(mmMap, objV(5), 0, 0, 0), obj(mmRef, 1)),
		"within a tuple":             slices.Concat(obj(mmTuple, objV(2)), obj(mmMap, intV(2), 0, intV(1), 0)),
		"within a list":              slices.Concat(obj(mmList, objV(3), emptyV), obj(mmMap, intV(2), 0, intV(1), 0)),
		"within a fun":               slices.Concat(obj(mmFun, 0, objV(3)), obj(mmMap, intV(2), 0, intV(1), 0)),
		"within a key":               slices.Concat(obj(mmMap, objV(3), 0), obj(mmMap, intV(2), 0, intV(1), 0)),
		"within a value":             slices.Concat(obj(mmMap, 0, objV(3)), obj(mmMap, intV(2), 0, intV(1), 0)),
	} {
		gets(t, what, words, impl.ErrBad, 0)
		isMem(t, what, memOf(young(words)))
	}
	for what, words := range map[string][]int{
		"keys rise":   obj(mmMap, intV(1), 0, intV(2), 0),
		"kinds rise":  slices.Concat(obj(mmMap, 0, 0, objV(5), 0), obj(mmRef, 1)),
		"names rise":  slices.Concat(obj(mmMap, objV(8), 0, objV(5), 0), atomObj("b"), atomObj("a")),
		"values fall": obj(mmMap, intV(1), intV(9), intV(2), intV(8)),
	} {
		gets(t, what, words, impl.OK, 5)
	}
	fall := []int{intV(2), 0, intV(1)}
	gets(t, "keys fall, 2000 terms", slices.Concat(obj(mmMap, append(fall, objV(5))...), obj(mmTuple, make([]int, 1995)...)), impl.ErrBad, 0)
	gets(t, "keys fall, 2001 terms", slices.Concat(obj(mmMap, append(fall, objV(5))...), obj(mmTuple, make([]int, 1996)...)), impl.ErrFull, 0)
	deep := func(n int) []int {
		words := obj(mmMap, append(slices.Clone(fall), objV(5))...)
		for i := range n {
			words = append(words, obj(mmTuple, objV(5+2*(i+1)))...)
		}
		return append(words, obj(mmTuple)...)
	}
	gets(t, "keys fall, 100 deep", deep(98), impl.ErrBad, 0)
	gets(t, "keys fall, 101 deep", deep(99), impl.ErrFull, 0)
}

// Large Bins of one Shared, or of two.
func TestGetLargeP11(t *testing.T) {
	s := strings.Repeat("\x00\xfe", 2000)
	m := sharing(memOf(young(obj(mmLarge, 1), obj(mmLarge, 1), obj(mmLarge, 2), obj(mmTuple, 1, 9, 17))), impl.Shared{}, impl.Shared{S: s, Refs: 2}, impl.Shared{S: large("b"), Refs: 1})
	if x, code := memGet(t, m, 0, objV(6)); code != impl.OK || !same(x, tuple(bin(s), bin(s), bin(large("b")))) {
		t.Error(code)
	}
}
