package tests

import (
	"slices"
	"strings"
	"testing"

	"loop.example/g00019/impl"
)

// emptyV is the value of the empty List.
const emptyV = 2

func intV(n int) int { return 4 * n }

// objV is the value of the object that begins at a place.
func objV(at int) int { return 4*at + 1 }

// obj is the words of an object.
func obj(kind int, words ...int) []int { return append([]int{kind*65536 + len(words)}, words...) }

// young is a heap of objects, aged one whose words below old are old.
func young(objects ...[]int) impl.Heap { return aged(0, objects...) }

func aged(old int, objects ...[]int) impl.Heap {
	return impl.Heap{Words: slices.Concat(objects...), Old: old, Live: true}
}

// memOf is a memory of heaps.
func memOf(heaps ...impl.Heap) impl.Mem { return impl.Mem{Heaps: heaps} }

// sharing is a memory with Shareds.
func sharing(m impl.Mem, shared ...impl.Shared) impl.Mem {
	return impl.Mem{Heaps: m.Heaps, Shared: shared}
}

// large is a text of 65 bytes.
func large(c string) string { return strings.Repeat(c, 65) }

func sameHeap(a, b impl.Heap) bool {
	return slices.Equal(a.Words, b.Words) && a.Old == b.Old && a.Live == b.Live
}

func sameMem(a, b impl.Mem) bool {
	return slices.EqualFunc(a.Heaps, b.Heaps, sameHeap) && slices.Equal(a.Shared, b.Shared)
}

func copiedMem(m impl.Mem) impl.Mem {
	heaps := slices.Clone(m.Heaps)
	for i, h := range heaps {
		heaps[i].Words = slices.Clone(h.Words)
	}
	return impl.Mem{Heaps: heaps, Shared: slices.Clone(m.Shared)}
}

// withRoom is a copy of a row with three more behind its end.
func withRoom[T any](row []T, spare T) []T {
	return append(slices.Clone(row), spare, spare, spare)[:len(row)]
}

// roomy is a copy of a memory with spare room behind each of its lists, and widened one with that room in it.
func roomy(m impl.Mem) impl.Mem {
	heaps := withRoom(m.Heaps, impl.Heap{Old: -7})
	for i, h := range heaps {
		heaps[i].Words = withRoom(h.Words, -7)
	}
	return impl.Mem{Heaps: heaps, Shared: withRoom(m.Shared, impl.Shared{Refs: -7})}
}

func widened(m impl.Mem) impl.Mem {
	heaps := slices.Clone(m.Heaps[:len(m.Heaps)+3])
	for i := range m.Heaps {
		heaps[i].Words = heaps[i].Words[:len(heaps[i].Words)+3]
	}
	return impl.Mem{Heaps: heaps, Shared: m.Shared[:len(m.Shared)+3]}
}

// ruin writes over all that a memory's lists have, and over the room behind them.
func ruin(m impl.Mem) {
	for i := range m.Heaps {
		ruinRow(m.Heaps[i].Words, 99)
	}
	ruinRow(m.Heaps, impl.Heap{Old: 99})
	ruinRow(m.Shared, impl.Shared{Refs: 99})
}

func ruinRow[T any](row []T, x T) {
	row = row[:cap(row)]
	for i := range row {
		row[i] = x
	}
}

// apart asks that no two lists of an answer share memory.
func apart(t *testing.T, m impl.Mem) {
	t.Helper()
	for i := range m.Heaps {
		one := copiedMem(m)
		ruinRow(m.Heaps[i].Words, 99)
		for k := range m.Heaps {
			if k != i && !sameHeap(m.Heaps[k], one.Heaps[k]) {
				t.Error("two heaps of an answer share words", i, k)
			}
		}
		copy(m.Heaps[i].Words, one.Heaps[i].Words)
	}
}

// memAct is one of the chapter's functions with all but its memory given: what the memory becomes, the values beside it, and a code.
type memAct func(m impl.Mem) (impl.Mem, []int, int)

// acted is what an act makes of a memory: what the second reading makes of it, too, a memory (or nothing at all, with a
// code that is not OK); the memory that it was given stays as it is, with the room behind it, and shares nothing with it.
func acted(t *testing.T, what string, m impl.Mem, act memAct, byWords memAct) (impl.Mem, []int, int) {
	t.Helper()
	given := roomy(m)
	after, values, code := act(given)
	if !sameMem(widened(given), widened(roomy(m))) {
		t.Fatalf("%s writes into %v, or behind it", what, m)
	}
	want, wantValues, wantCode := byWords(copiedMem(m))
	if code != wantCode || !sameMem(after, want) || !slices.Equal(values, wantValues) {
		t.Fatalf("%s of %v\nis %v %v, code %d\nby the words %v %v, code %d", what, m, after, values, code, want, wantValues, wantCode)
	}
	if code != impl.OK {
		return after, values, code
	}
	if !impl.MemOK(after) {
		t.Fatalf("%s of %v\nis %v, which is none", what, m, after)
	}
	ruin(given)
	if !sameMem(after, want) || !slices.Equal(values, wantValues) {
		t.Fatalf("%s shares memory with what it is given", what)
	}
	apart(t, after)
	return after, values, code
}

// one is the first of the values beside a memory, 0 without one.
func one(m impl.Mem, values []int, code int) (impl.Mem, int, int) {
	if len(values) == 0 {
		return m, 0, code
	}
	return m, values[0], code
}

// asRow is an answer with one value, as acts have it.
func asRow(m impl.Mem, v int, code int) (impl.Mem, []int, int) {
	if code != impl.OK {
		if v != 0 {
			return m, []int{v}, code
		}
		return m, nil, code
	}
	return m, []int{v}, code
}

func memBirth(t *testing.T, m impl.Mem) (impl.Mem, int, int) {
	t.Helper()
	return one(acted(t, "MemBirth", m, func(m impl.Mem) (impl.Mem, []int, int) { return asRow(impl.MemBirth(m)) }, memBirthByWords))
}

func memPut(t *testing.T, m impl.Mem, heap int, x impl.Term) (impl.Mem, int, int) {
	t.Helper()
	after, v, code := one(acted(t, "MemPut", m,
		func(m impl.Mem) (impl.Mem, []int, int) { return asRow(impl.MemPut(m, heap, x)) },
		func(m impl.Mem) (impl.Mem, []int, int) { return memPutByWords(m, heap, x) }))
	if code == impl.OK {
		if got, code := memGet(t, after, heap, v); code != impl.OK || !same(got, x) {
			t.Fatalf("%v was put, %v is got, code %d", x, got, code)
		}
	}
	return after, v, code
}

// memGet asks, too, that no two lists of the term share memory.
func memGet(t *testing.T, m impl.Mem, heap int, v int) (impl.Term, int) {
	t.Helper()
	given := roomy(m)
	x, code := impl.MemGet(given, heap, v)
	want, wantCode := memGetByWords(m, heap, v)
	if code != wantCode || !same(x, want) {
		t.Fatalf("MemGet of %d of heap %d of %v\nis %v, code %d\nby the words %v, code %d", v, heap, m, x, code, want, wantCode)
	}
	if !sameMem(widened(given), widened(roomy(m))) {
		t.Fatalf("MemGet writes into %v, or behind it", m)
	}
	ruin(given)
	if !same(x, want) {
		t.Fatal("MemGet shares memory with what it is given")
	}
	for i := range x.Kids {
		spoil(&x.Kids[i])
		if rest := x.Kids[i+1:]; !same(list(rest...), list(want.Kids[i+1:]...)) {
			t.Fatal("two lists of a term share memory", want)
		}
	}
	return want, code
}

func memSend(t *testing.T, m impl.Mem, from int, v int, to int) (impl.Mem, int, int) {
	t.Helper()
	after, moved, code := one(acted(t, "MemSend", m,
		func(m impl.Mem) (impl.Mem, []int, int) { return asRow(impl.MemSend(m, from, v, to)) },
		func(m impl.Mem) (impl.Mem, []int, int) { return memSendByWords(m, from, v, to) }))
	if code == impl.OK {
		isStill(t, m, from, v, after, to, moved)
		isStill(t, m, from, v, after, from, v)
	}
	return after, moved, code
}

func memCollect(t *testing.T, m impl.Mem, heap int, roots []int, full bool) (impl.Mem, []int, int) {
	t.Helper()
	row := withRoom(roots, -7)
	after, moved, code := acted(t, "MemCollect", m,
		func(m impl.Mem) (impl.Mem, []int, int) {
			after, values, code := impl.MemCollect(m, heap, row, full)
			if !slices.Equal(row[:len(row)+3], append(slices.Clone(roots), -7, -7, -7)) {
				t.Fatalf("MemCollect writes into the roots %v, or behind them", roots)
			}
			ruinRow(row, 99)
			return after, values, code
		},
		func(m impl.Mem) (impl.Mem, []int, int) { return memCollectByWords(m, heap, roots, full) })
	if code == impl.OK {
		for i, v := range roots {
			isStill(t, m, heap, v, after, heap, moved[i])
		}
	}
	return after, moved, code
}

func memDrop(t *testing.T, m impl.Mem, heap int) (impl.Mem, int) {
	t.Helper()
	after, _, code := acted(t, "MemDrop", m,
		func(m impl.Mem) (impl.Mem, []int, int) {
			after, code := impl.MemDrop(m, heap)
			return after, nil, code
		},
		func(m impl.Mem) (impl.Mem, []int, int) { return memDropByWords(m, heap) })
	return after, code
}

// isStill asks that a value is the term that another one was in another memory (or that both are none for the same reason).
func isStill(t *testing.T, before impl.Mem, heap, v int, after impl.Mem, heapThen, then int) {
	t.Helper()
	x, code := memGet(t, before, heap, v)
	y, codeThen := memGet(t, after, heapThen, then)
	if code != codeThen || !same(x, y) {
		t.Fatalf("%d of heap %d of %v\nwas %v, code %d\nand is, as %d of heap %d of %v\n%v, code %d", v, heap, before, x, code, then, heapThen, after, y, codeThen)
	}
}

// isMem asks that a memory is one, isNoMem that it is none, and that then all functions tell it and answer nothing beside it.
func isMem(t *testing.T, what string, m impl.Mem) {
	t.Helper()
	given := roomy(m)
	if !impl.MemOK(given) || !memOKByWords(m) {
		t.Errorf("%s: MemOK %v, by the words %v", what, impl.MemOK(m), memOKByWords(m))
	}
	if !sameMem(widened(given), widened(roomy(m))) {
		t.Errorf("%s: MemOK writes into it, or behind it", what)
	}
}

func isNoMem(t *testing.T, what string, m impl.Mem) {
	t.Helper()
	if impl.MemOK(m) || memOKByWords(m) {
		t.Errorf("%s: MemOK %v, by the words %v", what, impl.MemOK(m), memOKByWords(m))
	}
	refused := func(f string, after impl.Mem, beside bool, code int) {
		t.Helper()
		if code != impl.ErrBad || beside || !sameMem(after, impl.Mem{}) {
			t.Errorf("%s: %s answers %v, %v, code %d", what, f, after, beside, code)
		}
	}
	after, v, code := impl.MemBirth(m)
	refused("MemBirth", after, v != 0, code)
	after, v, code = impl.MemPut(m, 0, num(1))
	refused("MemPut", after, v != 0, code)
	x, code := impl.MemGet(m, 0, intV(1))
	refused("MemGet", impl.Mem{}, !zero(x), code)
	after, v, code = impl.MemSend(m, 0, intV(1), 1)
	refused("MemSend", after, v != 0, code)
	for _, full := range []bool{false, true} {
		after, values, code := impl.MemCollect(m, 0, []int{intV(1)}, full)
		refused("MemCollect", after, len(values) != 0, code)
	}
	after, code = impl.MemDrop(m, 0)
	refused("MemDrop", after, false, code)
}
