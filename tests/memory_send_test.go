package tests

import (
	"math"
	"slices"
	"testing"

	"loop.example/g00019/impl"
)

// sends asks what is put behind another heap's words for the value v of a heap of objects, and the value there.
func sends(t *testing.T, what string, words []int, v int, want []int, moved int) {
	t.Helper()
	there := slices.Concat(obj(mmRef, 1), obj(mmTuple, objV(0)), obj(mmPid, 2))
	m := memOf(aged(0, words), impl.Heap{}, aged(2, there))
	after, then, code := memSend(t, m, 0, v, 2)
	m.Heaps[2].Words = slices.Concat(there, want)
	if code != impl.OK || then != moved || !sameMem(after, m) {
		t.Errorf("%s: %v, %d, code %d; not %v, %d", what, after.Heaps, then, code, want, moved)
	}
	// Whether they are old or young is all the same.
	m.Heaps[0].Old, m.Heaps[2].Words = len(words), there
	if after, again, _ := memSend(t, m, 0, v, 2); again != moved || !slices.Equal(after.Heaps[2].Words, slices.Concat(there, want)) {
		t.Errorf("%s, old: %v, %d", what, after.Heaps, again)
	}
}

// Each object is copied one time, in the order in which it is met: v's own, then what the copied ones name.
func TestSendP11(t *testing.T) {
	a, b := atomObj("a"), atomObj("b")
	sends(t, "an Int", nil, intV(-3), nil, intV(-3))
	sends(t, "the empty List", nil, emptyV, nil, emptyV)
	sends(t, "an Int beside objects", obj(mmTuple), intV(impl.MaxInt), nil, intV(impl.MaxInt))
	sends(t, "one object", a, objV(0), a, objV(6))
	sends(t, "an object that names none", obj(mmTuple, intV(3), emptyV, intV(-1)), objV(0), obj(mmTuple, intV(3), emptyV, intV(-1)), objV(6))
	sends(t, "what it names", slices.Concat(a, obj(mmTuple, objV(0))), objV(3), slices.Concat(obj(mmTuple, objV(8)), a), objV(6))
	sends(t, "not what stands beside it", slices.Concat(b, a, b, obj(mmTuple, objV(3)), b), objV(9), slices.Concat(obj(mmTuple, objV(8)), a), objV(6))
	sends(t, "what is shared", slices.Concat(a, obj(mmTuple, objV(0), objV(0))), objV(3), slices.Concat(obj(mmTuple, objV(9), objV(9)), a), objV(6))
	// Object by object, value by value: not into the depth first.
	tree := slices.Concat(a, obj(mmTuple, objV(0)), b, obj(mmTuple, objV(5)), obj(mmTuple, objV(3), objV(8))) // 0 3 5 8 10
	sends(t, "row by row", tree, objV(10), slices.Concat(obj(mmTuple, objV(9), objV(11)), obj(mmTuple, objV(13)), obj(mmTuple, objV(16)), a, b), objV(6))
	sends(t, "met ahead, and deeper once more",
		slices.Concat(a, obj(mmTuple, objV(0)), obj(mmTuple, objV(3), objV(0))), objV(5),
		slices.Concat(obj(mmTuple, objV(9), objV(11)), obj(mmTuple, objV(11)), a), objV(6))
	sends(t, "met deeper, and behind once more",
		slices.Concat(a, obj(mmTuple, objV(0)), obj(mmTuple, objV(3)), obj(mmTuple, objV(5), objV(3))), objV(7),
		slices.Concat(obj(mmTuple, objV(9), objV(11)), obj(mmTuple, objV(11)), obj(mmTuple, objV(13)), a), objV(6))
	sends(t, "a list", slices.Concat(a, listWords(3, objV(0), intV(1), objV(0))), objV(3),
		slices.Concat(obj(mmList, objV(9), objV(12)), a, obj(mmList, intV(1), objV(15)), obj(mmList, objV(9), emptyV)), objV(6))
	sends(t, "a list's tail", slices.Concat(a, listWords(3, objV(0), intV(1), objV(0))), objV(9), slices.Concat(obj(mmList, objV(9), emptyV), a), objV(6))
	sends(t, "a fun, its number too", slices.Concat(a, obj(mmFun, objV(0), objV(0), intV(2))), objV(3), slices.Concat(obj(mmFun, objV(0), objV(10), intV(2)), a), objV(6))
	sends(t, "a map", slices.Concat(a, b, obj(mmMap, objV(0), objV(3), objV(3), objV(0))), objV(6), slices.Concat(obj(mmMap, objV(11), objV(14), objV(14), objV(11)), a, b), objV(6))
	sends(t, "numbers that look like values", slices.Concat(obj(mmTuple), obj(mmRef, objV(0)), obj(mmPid, objV(0)), obj(mmFun, objV(0)), obj(mmTuple, objV(1), objV(3), objV(5))), objV(7),
		slices.Concat(obj(mmTuple, objV(10), objV(12), objV(14)), obj(mmRef, objV(0)), obj(mmPid, objV(0)), obj(mmFun, objV(0))), objV(6))
	sends(t, "bytes that look like values", slices.Concat(obj(mmTuple), obj(mmBin, 7, 1), binObj("\x00"), obj(mmTuple, objV(1), objV(4))), objV(7), slices.Concat(obj(mmTuple, objV(9), objV(12)), obj(mmBin, 7, 1), binObj("\x00")), objV(6))
	sends(t, "a ring", obj(mmTuple, objV(0)), objV(0), obj(mmTuple, objV(6)), objV(6))
	sends(t, "a ring of two", slices.Concat(obj(mmTuple, objV(2)), obj(mmFun, 5, objV(0))), objV(2), slices.Concat(obj(mmFun, 5, objV(9)), obj(mmTuple, objV(6))), objV(6))
	sends(t, "a list in a ring", slices.Concat(obj(mmList, 0, objV(3)), obj(mmList, 4, objV(0))), objV(3), slices.Concat(obj(mmList, 4, objV(9)), obj(mmList, 0, objV(6))), objV(6))
	sends(t, "a map whose keys fall", obj(mmMap, intV(2), 0, intV(1), 0), objV(0), obj(mmMap, intV(2), 0, intV(1), 0), objV(6))
}

// Refs go up by one for each MmLarge that is copied, one that is shared counts one time.
func TestSendSharedP11(t *testing.T) {
	s, u := impl.Shared{S: large("s"), Refs: 2}, impl.Shared{S: large("u"), Refs: 1}
	m := sharing(memOf(young(obj(mmLarge, 0), obj(mmLarge, 0), obj(mmLarge, 2), obj(mmTuple, 1, 1, 1), obj(mmTuple, 1, 9), obj(mmTuple, 17, 1, 9)), young()), s, impl.Shared{}, u)
	for v, want := range map[int][2]int{emptyV: {2, 1}, objV(0): {3, 1}, objV(4): {2, 2}, objV(6): {3, 1}, objV(10): {4, 1}, objV(13): {4, 2}} {
		after, _, code := memSend(t, m, 0, v, 1)
		if code != impl.OK || after.Shared[0] != (impl.Shared{S: s.S, Refs: want[0]}) || after.Shared[1] != (impl.Shared{}) || after.Shared[2] != (impl.Shared{S: u.S, Refs: want[1]}) {
			t.Error(v, after, code)
		}
	}
	// Sent once more it is copied once more.
	for n := 3; n < 50; n++ {
		after, _, code := memSend(t, m, 0, objV(0), 1)
		if code != impl.OK || after.Shared[0].Refs != n {
			t.Fatal(n, after, code)
		}
		m = after
	}
}

// Which heaps, and which values.
func TestSendFaultsP11(t *testing.T) {
	m := memOf(young(obj(mmRef, mmRef*65536)), impl.Heap{}, young(), young(obj(mmTuple), obj(mmTuple)))
	for _, x := range [][3]int{
		{0, 0, 0}, {2, 0, 2}, {0, objV(0), 0}, {0, emptyV, 0}, // one heap as both
		{1, 0, 0}, {0, 0, 1}, {1, 0, 1}, {-1, 0, 0}, {0, 0, -1}, {4, 0, 0}, {0, 0, 4}, {1 << 60, 0, 0}, {0, 0, 1 << 60}, {-1 << 63, 0, 0}, {0, 0, -1 << 63}, {-1, 0, -1}, {9, 0, 9},
		{0, objV(1), 2}, {0, objV(2), 2}, {2, objV(0), 0}, {0, 3, 2}, {0, 6, 2}, {0, -1, 2}, {0, -3, 2}, {0, intV(impl.MaxInt + 1), 2}, {0, intV(-impl.MaxInt - 1), 2}, {0, math.MaxInt, 2}, {0, math.MinInt, 2},
		{0, objV(1), 3}, // a value of the other heap alone
	} {
		if after, v, code := memSend(t, m, x[0], x[1], x[2]); code != impl.ErrBad || v != 0 || !sameMem(after, impl.Mem{}) {
			t.Error(x, after, v, code)
		}
	}
	for _, x := range [][3]int{{0, objV(0), 2}, {3, objV(1), 0}, {2, 0, 0}, {0, emptyV, 3}} {
		if _, _, code := memSend(t, m, x[0], x[1], x[2]); code != impl.OK {
			t.Error(x, code)
		}
	}
}

// MaxWords met exactly and passed by one.
func TestSendFullP11(t *testing.T) {
	t.Parallel()
	words := slices.Concat(atomObj("a"), obj(mmTuple, objV(0), objV(0)), obj(mmTuple, objV(3)), obj(mmRef, 1))
	for v, size := range map[int]int{intV(1): 0, emptyV: 0, objV(0): 3, objV(3): 6, objV(6): 8, objV(8): 2} {
		for _, short := range []int{0, 1} {
			m := memOf(young(words), young(times(min(30000, 30000-size+short), obj(mmTuple))))
			_, _, code := memSend(t, m, 0, v, 1)
			if short == 0 && code != impl.OK || short == 1 && size > 0 && code != impl.ErrFull || size == 0 && code != impl.OK {
				t.Error(v, short, code)
			}
		}
	}
	all := slices.Concat(obj(mmTuple, slices.Repeat([]int{objV(15000)}, 14999)...), obj(mmTuple, make([]int, 14999)...))
	if after, _, code := memSend(t, memOf(young(all), young()), 0, objV(0), 1); code != impl.OK || len(after.Heaps[1].Words) != 30000 {
		t.Error(code)
	}
	if _, _, code := memSend(t, memOf(young(all), young(obj(mmTuple))), 0, objV(0), 1); code != impl.ErrFull {
		t.Error(code)
	}
	// What is wrong is told ahead of what is full.
	full := memOf(young(obj(mmRef, 1)), young(times(30000, obj(mmTuple))))
	for v, want := range map[int]int{objV(0): impl.ErrFull, objV(1): impl.ErrBad, objV(2): impl.ErrBad, 6: impl.ErrBad} {
		if _, _, code := memSend(t, full, 0, v, 1); code != want {
			t.Error(v, code)
		}
	}
	if _, _, code := memSend(t, full, 1, objV(0), 1); code != impl.ErrBad {
		t.Error(code)
	}
}
