package tests

import (
	"slices"

	"loop.example/g00019/impl"
)

// A second reading of chapter 8: objects are found by going through the words from the first on, new places by adding up
// sizes, and Refs go up and down one by one.

// lying is an object and where it lies.
type lying struct {
	at, kind int
	words    []int
}

// lyingIn is the objects of words, one behind the other, and whether they are all of the words.
func lyingIn(words []int) ([]lying, bool) {
	var row []lying
	for at := 0; at < len(words); {
		if words[at] < 0 || at+1+words[at]%65536 > len(words) {
			return row, false
		}
		o := lying{at, words[at] / 65536, words[at+1 : at+1+words[at]%65536]}
		row = append(row, o)
		at += 1 + len(o.words)
	}
	return row, true
}

// lyingBy is the objects by their places.
func lyingBy(words []int) map[int]lying {
	by := map[int]lying{}
	row, _ := lyingIn(words)
	for _, o := range row {
		by[o.at] = o
	}
	return by
}

// values is those of an object's words that are values.
func (o lying) values() []int {
	switch o.kind {
	case impl.TmFun:
		return o.words[min(1, len(o.words)):]
	case impl.TmTuple, impl.TmMap, impl.TmList:
		return o.words
	}
	return nil
}

func valueByWords(v int, by map[int]lying) bool {
	if v%4 == 0 {
		return v/4 >= -1000000000000000 && v/4 <= 1000000000000000
	}
	_, is := by[(v-1)/4]
	return v == 2 || v > 0 && v%4 == 1 && is
}

// textByWords is the bytes of an Atom's or a Bin's object, if they are as said.
func textByWords(words []int) (string, bool) {
	if len(words) == 0 || words[0] < 0 || words[0] > 64 || len(words)-1 != (words[0]+6)/7 {
		return "", false
	}
	s := ""
	for _, w := range words[1:] {
		if w < 0 || w >= 256*256*256*256*256*256*256 {
			return "", false
		}
		seven := ""
		for range 7 {
			seven = string([]byte{byte(w % 256)}) + seven
			w /= 256
		}
		s += seven
	}
	for i := words[0]; i < len(s); i++ {
		if s[i] != 0 {
			return "", false
		}
	}
	return s[:words[0]], true
}

func (o lying) rightByWords(by map[int]lying) bool {
	for _, v := range o.values() {
		if !valueByWords(v, by) {
			return false
		}
	}
	count := func(size int) bool {
		return len(o.words) >= 1 && len(o.words) <= size && o.words[0] >= 0 && o.words[0] <= 1000000000000000
	}
	switch o.kind {
	case impl.TmAtom:
		s, is := textByWords(o.words)
		return is && nameForm.MatchString(s)
	case impl.TmBin:
		_, is := textByWords(o.words)
		return is
	case impl.MmLarge:
		return len(o.words) == 1
	case impl.TmRef, impl.TmPid:
		return count(1)
	case impl.TmFun:
		return count(len(o.words))
	case impl.TmTuple:
		return true
	case impl.TmMap:
		return len(o.words)%2 == 0
	case impl.TmList:
		return len(o.words) == 2 && (o.words[1] == 2 || o.words[1]%4 == 1 && by[o.words[1]/4].kind == impl.TmList)
	}
	return false
}

func heapByWords(h impl.Heap) bool {
	if !h.Live {
		return len(h.Words) == 0 && h.Old == 0
	}
	row, whole := lyingIn(h.Words)
	by := lyingBy(h.Words)
	_, edge := by[h.Old]
	if len(h.Words) > 30000 || !whole || !edge && h.Old != len(h.Words) {
		return false
	}
	for _, o := range row {
		if !o.rightByWords(by) {
			return false
		}
		for _, v := range o.values() {
			if o.at < h.Old && v%4 == 1 && v/4 >= h.Old {
				return false
			}
		}
	}
	return true
}

func memOKByWords(m impl.Mem) bool {
	if len(m.Heaps) > 20 || len(m.Shared) > 200 {
		return false
	}
	for _, h := range m.Heaps {
		if !heapByWords(h) {
			return false
		}
	}
	refs := refsByWords(m)
	for i, s := range m.Shared {
		free := s.S == "" && s.Refs == 0 && refs[i] == 0
		if !free && (len(s.S) < 65 || len(s.S) > 4000 || s.Refs < 1 || s.Refs != refs[i]) {
			return false
		}
		delete(refs, i)
	}
	return len(refs) == 0
}

// refsByWords is how many objects of all heaps have each number of a Shared.
func refsByWords(m impl.Mem) map[int]int {
	refs := map[int]int{}
	for _, h := range m.Heaps {
		row, _ := lyingIn(h.Words)
		for _, o := range row {
			if o.kind == impl.MmLarge {
				refs[o.words[0]]++
			}
		}
	}
	return refs
}

func liveByWords(m impl.Mem, heap int) bool {
	return heap >= 0 && heap < len(m.Heaps) && m.Heaps[heap].Live
}

func memBirthByWords(m impl.Mem) (impl.Mem, []int, int) {
	if !memOKByWords(m) {
		return impl.Mem{}, nil, impl.ErrBad
	}
	for i := range m.Heaps {
		if !m.Heaps[i].Live {
			m.Heaps[i] = impl.Heap{Live: true}
			return m, []int{i}, impl.OK
		}
	}
	if len(m.Heaps) == 20 {
		return impl.Mem{}, nil, impl.ErrFull
	}
	m.Heaps = append(m.Heaps, impl.Heap{Live: true})
	return m, []int{len(m.Heaps) - 1}, impl.OK
}

func memPutByWords(m impl.Mem, heap int, x impl.Term) (impl.Mem, []int, int) {
	if !memOKByWords(m) || !liveByWords(m, heap) || !impl.TermOK(x) {
		return impl.Mem{}, nil, impl.ErrBad
	}
	v := putOne(&m, heap, x)
	if len(m.Heaps[heap].Words) > 30000 || len(m.Shared) > 200 {
		return impl.Mem{}, nil, impl.ErrFull
	}
	return m, []int{v}, impl.OK
}

func putOne(m *impl.Mem, heap int, x impl.Term) int {
	var values []int
	for _, kid := range x.Kids {
		values = append(values, putOne(m, heap, kid))
	}
	h := &m.Heaps[heap]
	object := func(kind int, words ...int) int {
		h.Words = append(h.Words, obj(kind, words...)...)
		return 4*(len(h.Words)-1-len(words)) + 1
	}
	switch x.Kind {
	case impl.TmInt:
		return 4 * x.N
	case impl.TmRef, impl.TmPid, impl.TmFun:
		return object(x.Kind, append([]int{x.N}, values...)...)
	case impl.TmTuple, impl.TmMap:
		return object(x.Kind, values...)
	case impl.TmList:
		v := 2
		for i := len(values) - 1; i >= 0; i-- {
			v = object(impl.TmList, values[i], v)
		}
		return v
	}
	if len(x.S) > 64 {
		return object(impl.MmLarge, shareOne(m, x.S))
	}
	words := []int{len(x.S)}
	for s := x.S; s != ""; s = s[min(7, len(s)):] {
		w := 0
		for _, c := range []byte((s + "\x00\x00\x00\x00\x00\x00")[:7]) {
			w = w*256 + int(c)
		}
		words = append(words, w)
	}
	return object(x.Kind, words...)
}

func shareOne(m *impl.Mem, s string) int {
	for i := range m.Shared {
		if m.Shared[i] == (impl.Shared{}) {
			m.Shared[i] = impl.Shared{S: s, Refs: 1}
			return i
		}
	}
	m.Shared = append(m.Shared, impl.Shared{S: s, Refs: 1})
	return len(m.Shared) - 1
}

func memGetByWords(m impl.Mem, heap int, v int) (impl.Term, int) {
	if !memOKByWords(m) || !liveByWords(m, heap) || !valueByWords(v, lyingBy(m.Heaps[heap].Words)) {
		return impl.Term{}, impl.ErrBad
	}
	g := gotten{by: lyingBy(m.Heaps[heap].Words), shared: m.Shared}
	x := g.term(v, 100)
	if g.full {
		return impl.Term{}, impl.ErrFull
	}
	if !allRise(x) {
		return impl.Term{}, impl.ErrBad
	}
	return x, impl.OK
}

// gotten is a term on its way.
type gotten struct {
	by     map[int]lying
	shared []impl.Shared
	terms  int
	full   bool
}

func (g *gotten) term(v int, depth int) impl.Term {
	g.terms++
	g.full = g.full || g.terms > 2000 || depth == 0
	if g.full {
		return impl.Term{}
	}
	if v%4 == 0 {
		return num(v / 4)
	}
	x := impl.Term{Kind: impl.TmList}
	for v != 2 && g.by[v/4].kind == impl.TmList && !g.full {
		x.Kids = append(x.Kids, g.term(g.by[v/4].words[0], depth-1))
		v = g.by[v/4].words[1]
	}
	o := g.by[v/4]
	if v == 2 || g.full {
		return x
	}
	x.Kind = o.kind
	for _, kid := range o.values() {
		x.Kids = append(x.Kids, g.term(kid, depth-1))
	}
	switch o.kind {
	case impl.TmAtom, impl.TmBin:
		x.S, _ = textByWords(o.words)
	case impl.MmLarge:
		x.Kind, x.S = impl.TmBin, g.shared[o.words[0]].S
	case impl.TmRef, impl.TmPid, impl.TmFun:
		x.N = o.words[0]
	}
	return x
}

// allRise tells whether the keys of all maps in a term rise.
func allRise(x impl.Term) bool {
	for i, kid := range x.Kids {
		if !allRise(kid) || x.Kind == impl.TmMap && i%2 == 0 && i > 0 && orderByWords(x.Kids[i-2], kid) >= 0 {
			return false
		}
	}
	return true
}

// metFrom is the places of the objects that values lead to, from a place on, in the order in which they are met.
func metFrom(by map[int]lying, values []int, stay int) []int {
	var order []int
	seen := map[int]bool{}
	meet := func(values []int) {
		for _, v := range values {
			if v%4 == 1 && v/4 >= stay && !seen[v/4] {
				seen[v/4] = true
				order = append(order, v/4)
			}
		}
	}
	meet(values)
	for i := 0; i < len(order); i++ {
		meet(by[order[i]].values())
	}
	return order
}

// laidDown is the words of objects, put behind others, and what becomes of values.
func laidDown(behind []int, by map[int]lying, order []int) ([]int, func(v int) int) {
	places := map[int]int{}
	end := len(behind)
	for _, at := range order {
		places[at] = end
		end += 1 + len(by[at].words)
	}
	then := func(v int) int {
		if place, is := places[v/4]; is && v%4 == 1 {
			return 4*place + 1
		}
		return v
	}
	words := slices.Clone(behind)
	for _, at := range order {
		o := by[at]
		bare := len(o.words) - len(o.values())
		row := obj(o.kind, o.words...)
		for i := 1 + bare; i < len(row); i++ {
			row[i] = then(row[i])
		}
		words = append(words, row...)
	}
	return words, then
}

func memSendByWords(m impl.Mem, from int, v int, to int) (impl.Mem, []int, int) {
	if !memOKByWords(m) || !liveByWords(m, from) || !liveByWords(m, to) || from == to {
		return impl.Mem{}, nil, impl.ErrBad
	}
	by := lyingBy(m.Heaps[from].Words)
	if !valueByWords(v, by) {
		return impl.Mem{}, nil, impl.ErrBad
	}
	order := metFrom(by, []int{v}, 0)
	words, then := laidDown(m.Heaps[to].Words, by, order)
	if len(words) > 30000 {
		return impl.Mem{}, nil, impl.ErrFull
	}
	m.Heaps[to].Words = words
	for _, at := range order {
		if by[at].kind == impl.MmLarge {
			m.Shared[by[at].words[0]].Refs++
		}
	}
	return m, []int{then(v)}, impl.OK
}

// letGo takes one off the Refs of what an object that is left out names.
func letGo(m impl.Mem, o lying) {
	if o.kind != impl.MmLarge {
		return
	}
	s := &m.Shared[o.words[0]]
	if s.Refs--; s.Refs == 0 {
		s.S = ""
	}
}

func memCollectByWords(m impl.Mem, heap int, roots []int, full bool) (impl.Mem, []int, int) {
	if !memOKByWords(m) || !liveByWords(m, heap) || len(roots) > 200 {
		return impl.Mem{}, nil, impl.ErrBad
	}
	h := &m.Heaps[heap]
	by := lyingBy(h.Words)
	for _, v := range roots {
		if !valueByWords(v, by) {
			return impl.Mem{}, nil, impl.ErrBad
		}
	}
	stay := h.Old
	if full {
		stay = 0
	}
	order := metFrom(by, roots, stay)
	words, then := laidDown(h.Words[:stay], by, order)
	for _, at := range order {
		delete(by, at)
	}
	for at, o := range by {
		if at >= stay {
			letGo(m, o)
		}
	}
	h.Words, h.Old = words, len(words)
	var moved []int
	for _, v := range roots {
		moved = append(moved, then(v))
	}
	return m, moved, impl.OK
}

func memDropByWords(m impl.Mem, heap int) (impl.Mem, []int, int) {
	if !memOKByWords(m) || !liveByWords(m, heap) {
		return impl.Mem{}, nil, impl.ErrBad
	}
	for _, o := range lyingBy(m.Heaps[heap].Words) {
		letGo(m, o)
	}
	m.Heaps[heap] = impl.Heap{}
	return m, nil, impl.OK
}
