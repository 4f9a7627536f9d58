package tests

import (
	"math"
	"slices"
	"testing"

	"loop.example/g00019/impl"
)

// collects asks what becomes of a heap's words, and of the roots.
func collects(t *testing.T, what string, h impl.Heap, roots []int, full bool, want []int, moved ...int) {
	t.Helper()
	other := aged(1, obj(mmTuple), obj(mmTuple, objV(0)))
	m := memOf(other, impl.Heap{}, h)
	after, then, code := memCollect(t, m, 2, roots, full)
	m.Heaps[2] = aged(len(want), want)
	if code != impl.OK || !slices.Equal(then, moved) || !sameMem(after, m) {
		t.Errorf("%s (full: %v): %v, %v, code %d; not %v, %v", what, full, after.Heaps, then, code, want, moved)
	}
}

// bothWays is a collection that is the same whether it is full or not, since nothing is old.
func bothWays(t *testing.T, what string, words []int, roots []int, want []int, moved ...int) {
	t.Helper()
	collects(t, what, young(words), roots, true, want, moved...)
	collects(t, what, young(words), roots, false, want, moved...)
	collects(t, what, aged(len(words), words), roots, true, want, moved...)
	collects(t, what, aged(len(words), words), roots, false, words, roots...)
}

// The order of the words: what the roots name, from the first on, then what those objects name.
func TestCollectP11(t *testing.T) {
	a, b, c := atomObj("a"), atomObj("b"), atomObj("c")
	bothWays(t, "nothing", nil, nil, nil)
	bothWays(t, "no roots", slices.Concat(a, obj(mmTuple, objV(0))), nil, nil)
	bothWays(t, "Ints and empty Lists alone", slices.Concat(a, b), []int{intV(3), emptyV, intV(-3)}, nil, intV(3), emptyV, intV(-3))
	bothWays(t, "Ints beside objects", slices.Concat(a, b), []int{intV(3), objV(3), emptyV}, b, intV(3), objV(0), emptyV)
	bothWays(t, "all, in the order of the roots", slices.Concat(a, b, c), []int{objV(6), objV(0), objV(3)}, slices.Concat(c, a, b), objV(0), objV(3), objV(6))
	bothWays(t, "roots that are alike", slices.Concat(a, b), []int{objV(3), objV(3), objV(0), objV(3)}, slices.Concat(b, a), objV(0), objV(0), objV(3), objV(0))
	bothWays(t, "all roots ahead of what they name", slices.Concat(a, b, obj(mmTuple, objV(0)), obj(mmTuple, objV(3))), []int{objV(6), objV(8)},
		slices.Concat(obj(mmTuple, objV(4)), obj(mmTuple, objV(7)), a, b), objV(0), objV(2))
	bothWays(t, "a root that another one names", slices.Concat(a, obj(mmTuple, objV(0))), []int{objV(3), objV(0)}, slices.Concat(obj(mmTuple, objV(2)), a), objV(0), objV(2))
	bothWays(t, "a root that names another one ahead", slices.Concat(a, obj(mmTuple, objV(0))), []int{objV(0), objV(3)}, slices.Concat(a, obj(mmTuple, objV(0))), objV(0), objV(3))
	bothWays(t, "object by object", slices.Concat(a, obj(mmTuple, objV(0)), b, obj(mmTuple, objV(5)), obj(mmTuple, objV(3), objV(8)), c), []int{objV(10)},
		slices.Concat(obj(mmTuple, objV(3), objV(5)), obj(mmTuple, objV(7)), obj(mmTuple, objV(10)), a, b), objV(0))
	bothWays(t, "what is shared", slices.Concat(a, obj(mmTuple, objV(0), objV(0)), obj(mmFun, objV(0), objV(0))), []int{objV(3), objV(6)},
		slices.Concat(obj(mmTuple, objV(6), objV(6)), obj(mmFun, objV(0), objV(6)), a), objV(0), objV(3))
	bothWays(t, "a list", slices.Concat(a, listWords(3, intV(1), objV(0), intV(2)), b), []int{objV(6)}, slices.Concat(obj(mmList, objV(3), objV(6)), a, obj(mmList, intV(2), emptyV)), objV(0))
	bothWays(t, "a map", slices.Concat(a, b, obj(mmMap, objV(0), objV(3), intV(1), objV(3))), []int{objV(6)}, slices.Concat(obj(mmMap, objV(5), objV(8), intV(1), objV(8)), a, b), objV(0))
	bothWays(t, "numbers and bytes that look like values", slices.Concat(obj(mmTuple), obj(mmRef, 1), obj(mmPid, 1), obj(mmFun, 1), obj(mmBin, 7, 1), obj(mmTuple, objV(5), objV(7))), []int{objV(3), objV(1), objV(10)},
		slices.Concat(obj(mmPid, 1), obj(mmRef, 1), obj(mmTuple, objV(7), objV(9)), obj(mmFun, 1), obj(mmBin, 7, 1)), objV(0), objV(2), objV(4))
	bothWays(t, "a ring", slices.Concat(a, obj(mmTuple, objV(3)), b), []int{objV(3)}, obj(mmTuple, objV(0)), objV(0))
	bothWays(t, "a ring that no root leads to", slices.Concat(a, obj(mmTuple, objV(5)), obj(mmTuple, objV(3))), []int{objV(0)}, a, objV(0))
	bothWays(t, "a ring of two", slices.Concat(a, obj(mmTuple, objV(5)), obj(mmFun, 4, objV(3))), []int{objV(5)}, slices.Concat(obj(mmFun, 4, objV(3)), obj(mmTuple, objV(0))), objV(0))
	bothWays(t, "a list in a ring", slices.Concat(a, obj(mmList, objV(0), objV(6)), obj(mmList, 4, objV(3))), []int{objV(6)}, slices.Concat(obj(mmList, 4, objV(3)), obj(mmList, objV(6), objV(0)), a), objV(0))
}

// The old words stay, or not, and the young ones behind them are met likewise.
func TestCollectOldP11(t *testing.T) {
	a, b, c := atomObj("a"), atomObj("b"), atomObj("c")
	old := slices.Concat(a, obj(mmTuple, objV(0)), b) // 0 3 5
	h := func(young ...[]int) impl.Heap { return aged(8, append([][]int{old}, young...)...) }
	then := func(young ...[]int) []int { return slices.Concat(append([][]int{old}, young...)...) }

	collects(t, "old ones that nothing leads to", h(), nil, false, old)
	collects(t, "old ones that nothing leads to", h(), nil, true, nil)
	collects(t, "young ones that nothing leads to", h(c, obj(mmTuple, objV(8))), nil, false, old)
	collects(t, "young ones that nothing leads to", h(c, obj(mmTuple, objV(8))), []int{objV(0)}, false, old, objV(0))
	collects(t, "young ones that nothing leads to", h(c, obj(mmTuple, objV(8))), []int{objV(3)}, true, slices.Concat(obj(mmTuple, objV(2)), a), objV(0))
	collects(t, "old roots", h(c), []int{objV(5), objV(3), intV(1)}, false, old, objV(5), objV(3), intV(1))
	collects(t, "old roots", h(c), []int{objV(5), objV(3), intV(1)}, true, slices.Concat(b, obj(mmTuple, objV(5)), a), objV(0), objV(3), intV(1))
	collects(t, "young roots", h(c, obj(mmTuple, objV(8))), []int{objV(11)}, false, then(obj(mmTuple, objV(10)), c), objV(8))
	collects(t, "young roots", h(c, obj(mmTuple, objV(8))), []int{objV(11)}, true, slices.Concat(obj(mmTuple, objV(2)), c), objV(0))
	// What old and young ones name.
	mixed := [][]int{c, obj(mmTuple, objV(3), objV(8), objV(5), objV(8)), obj(mmFun, objV(11), objV(11), objV(0))} // 8 11 16
	collects(t, "young ones that name old ones", h(mixed...), []int{objV(16), objV(3)}, false,
		then(obj(mmFun, objV(11), objV(12), objV(0)), obj(mmTuple, objV(3), objV(17), objV(5), objV(17)), c), objV(8), objV(3))
	collects(t, "young ones that name old ones", h(mixed...), []int{objV(16), objV(3)}, true,
		slices.Concat(obj(mmFun, objV(11), objV(6), objV(11)), obj(mmTuple, objV(11)), obj(mmTuple, objV(4), objV(14), objV(17), objV(14)), a, c, b), objV(0), objV(4))
	collects(t, "a young ring", h(obj(mmTuple, objV(11)), obj(mmTuple), obj(mmTuple, objV(8), objV(0))), []int{objV(11)}, false, then(obj(mmTuple, objV(11), objV(0)), obj(mmTuple, objV(8))), objV(8))
	collects(t, "a list whose end is old", aged(3, obj(mmList, intV(1), emptyV), obj(mmList, intV(2), objV(0)), obj(mmList, intV(3), objV(3))), []int{objV(6)}, false,
		slices.Concat(obj(mmList, intV(1), emptyV), obj(mmList, intV(3), objV(6)), obj(mmList, intV(2), objV(0))), objV(3))
	collects(t, "a list whose end is old", aged(3, obj(mmList, intV(1), emptyV), obj(mmList, intV(2), objV(0)), obj(mmList, intV(3), objV(3))), []int{objV(6)}, true,
		listWords(0, intV(3), intV(2), intV(1)), objV(0))
	collects(t, "young ones ahead of which all is old", aged(8, old, obj(mmTuple)), []int{objV(8)}, false, then(obj(mmTuple)), objV(8))
	collects(t, "all is old", aged(9, old, obj(mmTuple)), []int{objV(8)}, false, then(obj(mmTuple)), objV(8))
	collects(t, "all is old", aged(9, old, obj(mmTuple)), []int{objV(8)}, true, obj(mmTuple), objV(0))

	// What only an old one could lead to is no memory: old ones name no young ones.
	isNoMem(t, "an old one that names a young one", memOf(aged(2, obj(mmTuple, objV(2)), obj(mmTuple)), young()))
}

// What was collected is old, what is put behind it is young, and so on.
func TestCollectTurnsP11(t *testing.T) {
	m, _, _ := memBirth(t, impl.Mem{})
	m, x, _ := memPut(t, m, 0, term("{a, [1]}"))
	m, y, _ := memPut(t, m, 0, term("{b}"))
	m, roots, _ := memCollect(t, m, 0, []int{y, x}, false)
	if !slices.Equal(roots, []int{objV(0), objV(2)}) || m.Heaps[0].Old != 14 || len(m.Heaps[0].Words) != 14 {
		t.Fatal(m, roots)
	}
	m, z, _ := memPut(t, m, 0, term("#r9"))
	m, _, _ = memPut(t, m, 0, term("#p9"))
	if m.Heaps[0].Old != 14 || z != objV(14) {
		t.Fatal(m, z)
	}
	m, roots, _ = memCollect(t, m, 0, []int{z}, false)
	if !slices.Equal(roots, []int{objV(14)}) || m.Heaps[0].Old != 16 || len(m.Heaps[0].Words) != 16 {
		t.Fatal(m, roots)
	}
	m, roots, _ = memCollect(t, m, 0, []int{z}, true)
	if !slices.Equal(roots, []int{objV(0)}) || !sameMem(m, memOf(aged(2, obj(mmRef, 9)))) {
		t.Fatal(m, roots)
	}
	m, roots, _ = memCollect(t, m, 0, nil, true)
	if len(roots) != 0 || !sameMem(m, memOf(young())) {
		t.Fatal(m, roots)
	}
}

// Refs go down by one for each MmLarge that is left out; one that comes to 0 is free.
func TestCollectSharedP11(t *testing.T) {
	of := func(refs int) impl.Shared { return impl.Shared{S: large("s"), Refs: refs} }
	words := slices.Concat(obj(mmLarge, 0), obj(mmLarge, 0), obj(mmTuple, objV(0), objV(0)), obj(mmLarge, 1), obj(mmLarge, 2)) // 0 2 4 7 9
	for _, x := range []struct {
		roots []int
		old   int
		full  bool
		refs  [3]int
	}{
		{nil, 0, true, [3]int{1, 0, 1}}, {nil, 0, false, [3]int{1, 0, 1}}, {nil, 11, true, [3]int{1, 0, 1}}, {nil, 11, false, [3]int{3, 1, 2}},
		{[]int{objV(0)}, 0, true, [3]int{2, 0, 1}}, {[]int{objV(2)}, 0, false, [3]int{2, 0, 1}}, {[]int{objV(4)}, 0, true, [3]int{2, 0, 1}},
		{[]int{objV(4), objV(2)}, 0, true, [3]int{3, 0, 1}}, {[]int{objV(7)}, 0, false, [3]int{1, 1, 1}}, {[]int{objV(9), objV(9)}, 0, true, [3]int{1, 0, 2}},
		{nil, 2, false, [3]int{2, 0, 1}}, {nil, 4, false, [3]int{3, 0, 1}}, {nil, 9, false, [3]int{3, 1, 1}}, {[]int{objV(9)}, 7, false, [3]int{3, 0, 2}},
		{[]int{objV(0)}, 2, true, [3]int{2, 0, 1}}, {[]int{objV(2)}, 2, false, [3]int{3, 0, 1}},
	} {
		m := sharing(memOf(young(obj(mmLarge, 0), obj(mmLarge, 2)), aged(x.old, words)), of(3), of(1), of(2), impl.Shared{})
		after, _, code := memCollect(t, m, 1, x.roots, x.full)
		if code != impl.OK || len(after.Shared) != 4 || after.Shared[3] != (impl.Shared{}) {
			t.Error(x, after, code)
		}
		for i, refs := range x.refs {
			if want := of(refs); refs == 0 && after.Shared[i] != (impl.Shared{}) || refs > 0 && after.Shared[i] != want {
				t.Error(x, i, after.Shared)
			}
		}
	}
	// What is free is taken again.
	m := sharing(memOf(young(obj(mmLarge, 0), obj(mmLarge, 1))), of(1), of(1))
	m, _, _ = memCollect(t, m, 0, []int{objV(2)}, true)
	m, v, _ := memPut(t, m, 0, bin(large("u")))
	if v != objV(2) || !slices.Equal(m.Heaps[0].Words, slices.Concat(obj(mmLarge, 1), obj(mmLarge, 0))) || m.Shared[0] != (impl.Shared{S: large("u"), Refs: 1}) {
		t.Error(m, v)
	}
}

// How many roots there may be, which ones, and of which heaps.
func TestCollectFaultsP11(t *testing.T) {
	m := memOf(young(obj(mmRef, mmRef*65536)), impl.Heap{}, aged(1, obj(mmTuple), obj(mmTuple)))
	for _, full := range []bool{true, false} {
		for _, root := range []int{0, emptyV, objV(0)} {
			for n, want := range map[int]int{199: impl.OK, 200: impl.OK, 201: impl.ErrBad, 100000: impl.ErrBad} {
				after, roots, code := memCollect(t, m, 0, slices.Repeat([]int{root}, n), full)
				if code != want || code == impl.OK && len(roots) != n || code != impl.OK && (len(roots) != 0 || !sameMem(after, impl.Mem{})) {
					t.Error(root, n, len(roots), code)
				}
			}
		}
		for _, root := range []int{objV(1), objV(2), objV(-1), 3, 6, 7, -1, -2, -3, intV(impl.MaxInt + 1), intV(-impl.MaxInt - 1), math.MaxInt, math.MinInt, math.MinInt + 1} {
			for _, roots := range [][]int{{root}, {0, root}, {root, 0}, append(make([]int, 199), root)} {
				if after, moved, code := memCollect(t, m, 0, roots, full); code != impl.ErrBad || len(moved) != 0 || !sameMem(after, impl.Mem{}) {
					t.Error(roots, moved, code)
				}
			}
		}
		for _, heap := range []int{-1, 1, 3, 1 << 60, -1 << 63} {
			for _, roots := range [][]int{nil, {0}} {
				if after, moved, code := memCollect(t, m, heap, roots, full); code != impl.ErrBad || len(moved) != 0 || !sameMem(after, impl.Mem{}) {
					t.Error(heap, moved, code)
				}
			}
		}
	}
	// A heap that is as large as may be.
	whole := memOf(aged(15000, times(30000, obj(mmTuple))))
	for full, want := range map[bool]int{true: 1, false: 15001} {
		if after, _, code := memCollect(t, whole, 0, []int{objV(29999)}, full); code != impl.OK || len(after.Heaps[0].Words) != want {
			t.Error(full, code)
		}
	}
	if after, _, code := memCollect(t, memOf(aged(1, obj(mmTuple), obj(mmTuple, slices.Repeat([]int{objV(0)}, 29998)...))), 0, []int{objV(1)}, true); code != impl.OK || len(after.Heaps[0].Words) != 30000 {
		t.Error(code)
	}
}

// The heap is not Live, its words are gone, Refs go down.
func TestDropP11(t *testing.T) {
	of := func(refs int) impl.Shared { return impl.Shared{S: large("s"), Refs: refs} }
	first, second := aged(2, obj(mmLarge, 0), obj(mmLarge, 1), obj(mmTuple, objV(2))), young(obj(mmTuple), obj(mmLarge, 0), obj(mmLarge, 3), obj(mmLarge, 3))
	m := sharing(memOf(first, impl.Heap{}, second, young()), of(2), of(1), impl.Shared{}, of(2))
	after, code := memDrop(t, m, 0)
	if code != impl.OK || !sameMem(after, sharing(memOf(impl.Heap{}, impl.Heap{}, second, young()), of(1), impl.Shared{}, impl.Shared{}, of(2))) {
		t.Error(after, code)
	}
	after, code = memDrop(t, m, 2)
	if code != impl.OK || !sameMem(after, sharing(memOf(first, impl.Heap{}, impl.Heap{}, young()), of(1), of(1), impl.Shared{}, impl.Shared{})) {
		t.Error(after, code)
	}
	after, code = memDrop(t, after, 0)
	if code != impl.OK || !sameMem(after, sharing(memOf(impl.Heap{}, impl.Heap{}, impl.Heap{}, young()), make([]impl.Shared, 4)...)) {
		t.Error(after, code)
	}
	after, code = memDrop(t, m, 3)
	if code != impl.OK || !sameMem(after, sharing(memOf(first, impl.Heap{}, second, impl.Heap{}), m.Shared...)) {
		t.Error(after, code)
	}
	for _, heap := range []int{-1, 1, 4, 1 << 60, -1 << 63} {
		if after, code := memDrop(t, m, heap); code != impl.ErrBad || !sameMem(after, impl.Mem{}) {
			t.Error(heap, after, code)
		}
	}
	if after, code := memDrop(t, impl.Mem{}, 0); code != impl.ErrBad || !sameMem(after, impl.Mem{}) {
		t.Error(after, code)
	}
}
