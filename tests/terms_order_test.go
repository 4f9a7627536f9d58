package tests

import (
	"cmp"
	"strings"
	"testing"

	"loop.example/g00019/impl"
)

// orderByWords is the order as the document's words put it, from Kind to Kind.
func orderByWords(a, b impl.Term) int {
	if a.Kind != b.Kind {
		return cmp.Compare(a.Kind, b.Kind)
	}
	switch a.Kind {
	case impl.TmInt, impl.TmRef, impl.TmPid:
		return cmp.Compare(a.N, b.N)
	case impl.TmAtom, impl.TmBin:
		return strings.Compare(a.S, b.S)
	case impl.TmFun:
		return cmp.Or(cmp.Compare(a.N, b.N), cmp.Compare(len(a.Kids), len(b.Kids)), firstUnlike(a.Kids, b.Kids, 0, 1))
	case impl.TmTuple:
		return cmp.Or(cmp.Compare(len(a.Kids), len(b.Kids)), firstUnlike(a.Kids, b.Kids, 0, 1))
	case impl.TmMap:
		return cmp.Or(cmp.Compare(len(a.Kids), len(b.Kids)), firstUnlike(a.Kids, b.Kids, 0, 2), firstUnlike(a.Kids, b.Kids, 1, 2))
	}
	return cmp.Or(firstUnlike(a.Kids, b.Kids, 0, 1), cmp.Compare(len(a.Kids), len(b.Kids)))
}

// firstUnlike is the order of the first two that are told apart, of each step-th from a place on.
func firstUnlike(a, b []impl.Term, from, step int) int {
	for i := from; i < len(a) && i < len(b); i += step {
		if c := orderByWords(a[i], b[i]); c != 0 {
			return c
		}
	}
	return 0
}

func ordered(t *testing.T, a, b impl.Term) int {
	t.Helper()
	c, code := impl.TermCompare(a, b)
	if code != impl.OK {
		t.Fatalf("%v %v: code %d", a, b, code)
	}
	return c
}

// P2: each rule of the order, and that it is one, on terms whose order is written out.
func TestOrderOfLadderP2(t *testing.T) {
	up := ladder()
	for i := range up {
		for k := range up {
			if c := ordered(t, up[i], up[k]); c != cmp.Compare(i, k) {
				t.Errorf("%v against %v: %d", up[i], up[k], c)
			}
		}
	}
}

// P2: only the same term is alike, turned round it is the other way, and it is the order of the words.
func TestOrderOfAnyP2(t *testing.T) {
	all := anyTerms(400)
	for _, a := range all {
		for _, b := range all {
			c := ordered(t, a, b)
			if c != orderByWords(a, b) || c != -ordered(t, b, a) || (c == 0) != same(a, b) {
				t.Fatalf("%v against %v: %d", a, b, c)
			}
		}
	}
}

// P2: what is ahead of something is ahead of all that this is ahead of.
func TestOrderHandsOnP2(t *testing.T) {
	all := anyTerms(60)[len(ladder()):]
	for _, a := range all {
		for _, b := range all {
			if ordered(t, a, b) > 0 {
				continue
			}
			for _, c := range all {
				if ordered(t, b, c) <= 0 && ordered(t, a, c) > 0 {
					t.Fatalf("%v %v %v", a, b, c)
				}
			}
		}
	}
}

func TestOrderAtLimitsP2(t *testing.T) {
	deep, deeper := nest(num(1), 99), nest(num(2), 99)
	if c := ordered(t, deep, deeper); c != -1 {
		t.Error(c)
	}
	long := many(num(0), 1999)
	longer := many(num(0), 1999)
	longer.Kids[1998] = num(-1)
	if c := ordered(t, long, longer); c != 1 {
		t.Error(c)
	}
	if c := ordered(t, long, many(num(0), 1998)); c != 1 {
		t.Error(c)
	}
	if c := ordered(t, list(), impl.Term{Kind: impl.TmList, Kids: []impl.Term{}}); c != 0 {
		t.Error("an empty list and nil are not alike", c)
	}
}

func TestOrderOfWrongP2(t *testing.T) {
	for what, w := range wrongTerms() {
		for _, pair := range [][2]impl.Term{{w, num(1)}, {num(1), w}, {w, w}} {
			if c, code := impl.TermCompare(pair[0], pair[1]); c != 0 || code != impl.ErrBad {
				t.Error(what, c, code)
			}
		}
	}
}
