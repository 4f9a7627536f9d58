package tests

import (
	"math"
	"slices"
	"strings"
	"testing"

	"loop.example/g00019/impl"
)

// heapText is a text whose length is at an edge, or not.
func (r chance) heapText() string {
	n := []int{0, 1, 2, 6, 7, 8, 14, 15, 62, 63, 64, 65, 66, 100}[r.Intn(14)]
	return strings.Repeat(r.of("a", "\x00", "\xff", "\x00\x01", "abc"), n)[:n]
}

// heapTerm is a term by chance, with texts of all lengths in it.
func (r chance) heapTerm() impl.Term {
	switch r.Intn(6) {
	case 0:
		return bin(r.heapText())
	case 1:
		return list(bin(r.heapText()), anyTerm(r.Rand, 1), bin(r.heapText()))
	case 2:
		return dict(anyTerm(r.Rand, 1), tuple(bin(r.heapText()), list()))
	}
	return anyTerm(r.Rand, 3)
}

// shape is an object whose values are yet to be chosen.
type shape struct {
	at, kind int
	bare     []int
	values   int
}

func (r chance) shape(at, shareds int) shape {
	s := shape{at: at, kind: []int{mmAtom, mmRef, mmFun, mmPid, mmTuple, mmTuple, mmMap, mmList, mmList, mmList, mmBin, mmLarge}[r.Intn(12)]}
	switch s.kind {
	case mmAtom:
		s.bare = packed(r.of("a", "b", "ok", "abcdefg", "abcdefgh", strings.Repeat("z", 30)))
	case mmRef, mmPid, mmFun:
		s.bare = []int{r.number()}
	case mmBin:
		text := r.heapText()
		s.bare = packed(text[:min(len(text), 64)])
	case mmLarge:
		s.bare = []int{r.Intn(max(1, shareds))}
		if shareds == 0 {
			s.kind = mmPid
		}
	case mmList:
		s.values = 2
	case mmMap:
		s.values = 2 * r.Intn(3)
	}
	if s.kind == mmTuple || s.kind == mmFun {
		s.values = r.Intn(4)
	}
	return s
}

// wildHeap is a heap whose objects name one another as it comes: those ahead of them alone, or all, themselves too.
func (r chance) wildHeap(shareds int) impl.Heap {
	var shapes []shape
	end := 0
	for range r.Intn(14) {
		s := r.shape(end, shareds)
		shapes = append(shapes, s)
		end += 1 + len(s.bare) + s.values
	}
	old := end
	if k := r.Intn(len(shapes) + 1); k < len(shapes) {
		old = shapes[k].at
	}
	rings := r.Intn(2) == 0
	named := func(of shape, lists bool) int {
		var may []int
		for _, s := range shapes {
			if (rings || s.at < of.at) && (of.at >= old || s.at < old) && (!lists || s.kind == mmList) {
				may = append(may, objV(s.at))
			}
		}
		if len(may) == 0 || r.Intn(6) == 0 {
			return emptyV
		}
		return may[r.Intn(len(may))]
	}
	h := impl.Heap{Live: true, Old: old}
	for _, s := range shapes {
		words := slices.Clone(s.bare)
		for i := range s.values {
			v := named(s, s.kind == mmList && i == 1)
			if r.Intn(3) == 0 && (s.kind != mmList || i == 0) {
				v = intV([]int{0, 1, -1, 7, impl.MaxInt, -impl.MaxInt}[r.Intn(6)])
			}
			words = append(words, v)
		}
		h.Words = append(h.Words, obj(s.kind, words...)...)
	}
	return h
}

// wildMem is a memory of such heaps.
func (r chance) wildMem() impl.Mem {
	var m impl.Mem
	m.Shared = make([]impl.Shared, r.Intn(4))
	for range r.Intn(5) {
		if r.Intn(6) == 0 {
			m.Heaps = append(m.Heaps, impl.Heap{})
		} else {
			m.Heaps = append(m.Heaps, r.wildHeap(len(m.Shared)))
		}
	}
	for i, refs := range refsByWords(m) {
		m.Shared[i] = impl.Shared{S: strings.Repeat(r.of("s", "u", "\x00"), []int{65, 66, 100, 4000}[r.Intn(4)]), Refs: refs}
	}
	return m
}

// heapOf is the number of a heap, mostly of one that is Live.
func (r chance) heapOf(m impl.Mem) int {
	heap := r.Intn(len(m.Heaps)+2) - 1
	for range 5 {
		if !liveByWords(m, heap) {
			heap = r.Intn(len(m.Heaps)+2) - 1
		}
	}
	return heap
}

// valueOf is a number, mostly a value of a heap.
func (r chance) valueOf(m impl.Mem, heap int) int {
	switch r.Intn(12) {
	case 0:
		return r.Intn(300) - 20
	case 1:
		return []int{math.MinInt, math.MaxInt, intV(impl.MaxInt), intV(impl.MaxInt + 1), intV(-impl.MaxInt - 1)}[r.Intn(5)]
	case 2:
		return intV(r.Intn(9) - 4)
	case 3:
		return emptyV
	}
	if liveByWords(m, heap) {
		if row, _ := lyingIn(m.Heaps[heap].Words); len(row) > 0 {
			return objV(row[r.Intn(len(row))].at)
		}
	}
	return emptyV
}

// rightRoots is values of a heap that is Live.
func (r chance) rightRoots(m impl.Mem, heap int) []int {
	var roots []int
	for range r.Intn(5) {
		if v := r.valueOf(m, heap); valueByWords(v, lyingBy(m.Heaps[heap].Words)) {
			roots = append(roots, v)
		}
	}
	return roots
}

// actsOn does each act of the chapter to a memory, and counts what comes of them.
func (r chance) actsOn(t *testing.T, m impl.Mem, seen map[string]int) {
	t.Helper()
	tell := func(act string, code int) { seen[act+[]string{"", "-bad", "", "-full"}[code]]++ }
	_, _, code := memBirth(t, m)
	tell("birth", code)
	heap := r.heapOf(m)
	_, _, code = memPut(t, m, heap, r.heapTerm())
	tell("put", code)
	for range 3 {
		_, code = memGet(t, m, heap, r.valueOf(m, heap))
		tell("get", code)
	}
	_, _, code = memSend(t, m, heap, r.valueOf(m, heap), r.heapOf(m))
	tell("send", code)
	for _, full := range []bool{false, true} {
		roots := []int{r.valueOf(m, heap), r.valueOf(m, heap)}
		if liveByWords(m, heap) && r.Intn(4) > 0 {
			roots = r.rightRoots(m, heap)
		}
		_, _, code = memCollect(t, m, heap, roots, full)
		tell("collect", code)
	}
	_, code = memDrop(t, m, heap)
	tell("drop", code)
}

// Each act on memories by chance is what the second reading says; roots, and what was sent, are what they were.
func TestActsByChanceP11(t *testing.T) {
	t.Parallel()
	r := newChance(81)
	seen := map[string]int{}
	for range 6000 {
		m := r.wildMem()
		isMem(t, "a memory by chance", m)
		r.actsOn(t, m, seen)
	}
	tallied(t, seen, 300, "birth put put-bad get get-bad get-full send send-bad collect collect-bad drop drop-bad")
}

// spoiltMem is a memory of which one thing is another.
func (r chance) spoiltMem(m impl.Mem) impl.Mem {
	m = copiedMem(m)
	if len(m.Shared) > 0 && r.Intn(4) == 0 {
		s := &m.Shared[r.Intn(len(m.Shared))]
		switch r.Intn(4) {
		case 0:
			s.Refs += r.Intn(5) - 2
		case 1:
			s.S = strings.Repeat("x", []int{0, 1, 64, 65, 4000, 4001}[r.Intn(6)])
		case 2:
			m.Shared = m.Shared[:len(m.Shared)-1]
		default:
			*s = impl.Shared{}
		}
		return m
	}
	if len(m.Heaps) == 0 {
		return impl.Mem{Shared: []impl.Shared{{Refs: r.Intn(2)}}}
	}
	h := &m.Heaps[r.Intn(len(m.Heaps))]
	n := len(h.Words)
	switch k := r.Intn(10); {
	case k == 0:
		h.Old = r.Intn(n+3) - 1
	case k == 1:
		h.Live = !h.Live
	case n == 0:
		h.Words = [][]int{{0}, obj(mmTuple), obj(mmRef, 1), obj(mmLarge, 0)}[r.Intn(4)]
	case k == 2:
		i := r.Intn(n)
		h.Words = slices.Delete(h.Words, i, i+1)
	case k == 3:
		h.Words = slices.Insert(h.Words, r.Intn(n+1), r.Intn(9)-2)
	default:
		w := &h.Words[r.Intn(n)]
		*w = r.otherWord(*w, n)
	}
	return m
}

func (r chance) otherWord(w, n int) int {
	switch r.Intn(8) {
	case 0:
		return w + r.Intn(5) - 2
	case 1:
		return w + 4*(r.Intn(5)-2)
	case 2:
		return w + 65536*(r.Intn(5)-2)
	case 3:
		return objV(r.Intn(n+2) - 1)
	case 4:
		return obj(r.Intn(12), make([]int, r.Intn(4))...)[0]
	case 5:
		return w ^ 1<<r.Intn(64)
	case 6:
		return -w
	}
	return []int{0, 1, 2, 3, -1, 1 << 56, 1<<56 - 1, math.MaxInt, math.MinInt, impl.MaxInt, impl.MaxInt + 1, intV(impl.MaxInt), intV(impl.MaxInt + 1)}[r.Intn(13)]
}

// Memories that are spoilt are memories or none as the second reading says.
func TestSpoiltMemoriesP11(t *testing.T) {
	t.Parallel()
	r := newChance(82)
	seen := map[string]int{}
	for range 3000 {
		m := r.wildMem()
		for range 10 {
			spoilt := r.spoiltMem(m)
			if r.Intn(4) == 0 {
				spoilt = r.spoiltMem(spoilt)
			}
			if !memOKByWords(spoilt) {
				isNoMem(t, "a spoilt memory", spoilt)
				seen["none"]++
			} else if !sameMem(spoilt, m) {
				isMem(t, "a memory that was another", spoilt)
				r.actsOn(t, spoilt, seen)
				seen["one"]++
			}
			if t.Failed() {
				t.Fatal(spoilt)
			}
		}
	}
	tallied(t, seen, 2000, "none one")
}

// keeping is a memory that grows by chance, with the terms beside it that values of its heaps are.
type keeping struct {
	chance
	*testing.T
	m    impl.Mem
	kept map[int][]keptTerm // by the heaps that are Live
	seen map[string]int
}

type keptTerm struct {
	v int
	x impl.Term
}

// holds asks that all is as it is kept, and that Refs are as many as there are objects.
func (k *keeping) holds() {
	k.Helper()
	if !impl.MemOK(k.m) {
		k.Fatal("no memory", k.m)
	}
	for heap, h := range k.m.Heaps {
		if _, is := k.kept[heap]; is != h.Live {
			k.Fatal(heap, "is Live:", h.Live)
		}
		for _, e := range k.kept[heap] {
			if x, code := impl.MemGet(k.m, heap, e.v); code != impl.OK || !same(x, e.x) {
				k.Fatalf("%d of heap %d of %v was %v and is %v, code %d", e.v, heap, k.m, e.x, x, code)
			}
		}
	}
	refs := refsByWords(k.m)
	for i, s := range k.m.Shared {
		if s.Refs != refs[i] || (s.S == "") != (s.Refs == 0) || len(k.kept) == 0 && s != (impl.Shared{}) {
			k.Fatal(i, s.Refs, refs[i], k.m)
		}
	}
}

// someHeap is one of the heaps that are Live, -1 without one.
func (k *keeping) someHeap() int {
	var row []int
	for i, h := range k.m.Heaps {
		if h.Live {
			row = append(row, i)
		}
	}
	if len(row) == 0 {
		return -1
	}
	return row[k.Intn(len(row))]
}

func (k *keeping) birth() {
	if after, heap, code := memBirth(k.T, k.m); code == impl.OK {
		k.m = after
		k.kept[heap] = nil
		k.seen["birth"]++
	}
}

func (k *keeping) put() {
	heap, x := k.someHeap(), k.heapTerm()
	if after, v, code := memPut(k.T, k.m, heap, x); code == impl.OK {
		k.m = after
		k.kept[heap] = append(k.kept[heap], keptTerm{v, x})
		k.seen["put"]++
	}
}

// send sends a value that is kept, or another one that is some term.
func (k *keeping) send() {
	from, to := k.someHeap(), k.someHeap()
	v := k.valueOf(k.m, from)
	if row := k.kept[from]; len(row) > 0 && k.Intn(2) == 0 {
		v = row[k.Intn(len(row))].v
	}
	x, code := memGet(k.T, k.m, from, v)
	if after, moved, sent := memSend(k.T, k.m, from, v, to); sent == impl.OK {
		k.m = after
		k.seen["send"]++
		if code == impl.OK {
			k.kept[to] = append(k.kept[to], keptTerm{moved, x})
		}
	}
}

// collect keeps some of what is kept, in some order; what is old is kept by itself, unless all is collected.
func (k *keeping) collect() {
	heap, full := k.someHeap(), k.Intn(2) == 0
	if heap < 0 {
		return
	}
	var roots []int
	var terms []impl.Term
	for range k.Intn(6) {
		if row := k.kept[heap]; len(row) > 0 {
			e := row[k.Intn(len(row))]
			roots, terms = append(roots, e.v), append(terms, e.x)
		}
	}
	old := k.m.Heaps[heap].Old
	after, moved, code := memCollect(k.T, k.m, heap, roots, full)
	if code != impl.OK {
		k.Fatal(code)
	}
	var row []keptTerm
	for i, v := range moved {
		row = append(row, keptTerm{v, terms[i]})
	}
	for _, e := range k.kept[heap] {
		if !full && e.v/4 < old && len(row) < 30 {
			row = append(row, e)
		}
	}
	k.m, k.kept[heap] = after, row
	k.seen[map[bool]string{true: "full", false: "collect"}[full]]++
}

func (k *keeping) drop() {
	heap := k.someHeap()
	if after, code := memDrop(k.T, k.m, heap); code == impl.OK {
		k.m = after
		delete(k.kept, heap)
		k.seen["drop"]++
	}
}

// P11: whatever is done, what is kept is what it was, and Refs are as many as there are objects; when all heaps have ended nothing is shared.
func TestMemoriesGrowP11(t *testing.T) {
	t.Parallel()
	seen := map[string]int{}
	for seed := range 120 {
		k := &keeping{chance: newChance(int64(8000 + seed)), T: t, kept: map[int][]keptTerm{}, seen: seen}
		if seed%2 == 1 {
			k.begin(k.wildMem())
		}
		acts := []func(){k.birth, k.put, k.put, k.put, k.put, k.send, k.send, k.send, k.collect, k.collect, k.collect, k.drop}
		for range 60 {
			acts[k.Intn(len(acts))]()
			k.holds()
		}
		for len(k.kept) > 0 {
			k.drop()
			k.holds()
		}
	}
	tallied(t, seen, 200, "birth put send full collect drop")
}

// begin begins with a memory that is there, and keeps each value of it that is a term.
func (k *keeping) begin(m impl.Mem) {
	k.m = m
	for heap, h := range m.Heaps {
		if !h.Live {
			continue
		}
		k.kept[heap] = nil
		row, _ := lyingIn(h.Words)
		for _, o := range row {
			if x, code := memGet(k.T, m, heap, objV(o.at)); code == impl.OK {
				k.kept[heap] = append(k.kept[heap], keptTerm{objV(o.at), x})
			}
		}
	}
}
