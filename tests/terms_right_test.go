package tests

import (
	"strings"
	"testing"

	"loop.example/g00019/impl"
)

// edgeTerms is terms that meet a limit exactly, with how many terms each is.
func edgeTerms() map[string]struct {
	t    impl.Term
	size int
} {
	a := atom("a")
	full := list(many(a, 999), many(a, 998))
	return map[string]struct {
		t    impl.Term
		size int
	}{
		"greatest int":      {num(impl.MaxInt), 1},
		"least int":         {num(-impl.MaxInt), 1},
		"greatest ref":      {ref(impl.MaxInt), 1},
		"greatest pid":      {pid(impl.MaxInt), 1},
		"greatest fun":      {fun(impl.MaxInt), 1},
		"name of 1":         {atom("z"), 1},
		"name of 30":        {atom("a" + strings.Repeat("Z", 29)), 1},
		"name of all kinds": {atom("azAZ09_"), 1},
		"bin of 0":          {bin(""), 1},
		"bin of 4000":       {bin(strings.Repeat("\x07", 4000)), 1},
		"2000 terms":        {many(a, 1999), 2000},
		"2000 in two rows":  {full, 2000},
		"100 deep":          {nest(a, 99), 100},
		"100 deep, empty":   {nest(list(), 99), 100},
		"tuple of 255":      {impl.Term{Kind: impl.TmTuple, Kids: many(a, 255).Kids}, 256},
		"tuple of 256":      {impl.Term{Kind: impl.TmTuple, Kids: many(a, 256).Kids}, 257},
		"kids empty":        {impl.Term{Kind: impl.TmInt, Kids: []impl.Term{}}, 1},
		"tuple, kids empty": {impl.Term{Kind: impl.TmTuple, Kids: []impl.Term{}}, 1},
		"map":               {dict(num(1), a, a, num(1)), 5},
		"map in a map":      {dict(dict(), dict(a, dict())), 5},
		"fun with three":    {fun(3, a, list(a), num(1)), 5},
	}
}

func TestRightTerms(t *testing.T) {
	for what, e := range edgeTerms() {
		if size, code := impl.TermSize(e.t); !impl.TermOK(e.t) || size != e.size || code != impl.OK {
			t.Error(what, size, code)
		}
	}
	for _, x := range anyTerms(500) {
		if !impl.TermOK(x) {
			t.Error(x)
		}
	}
}

func TestWrongTerms(t *testing.T) {
	for what, w := range wrongTerms() {
		if impl.TermOK(w) {
			t.Error(what, "is right")
		}
		if n, code := impl.TermSize(w); n != 0 || code != impl.ErrBad {
			t.Error(what, "size", n, code)
		}
		if s, code := impl.TermShow(w); s != "" || code != impl.ErrBad {
			t.Error(what, "show", s, code)
		}
		if s, code := impl.TermPack(w); s != "" || code != impl.ErrBad {
			t.Error(what, "pack", s, code)
		}
		if n, code := impl.TermHash(w); n != 0 || code != impl.ErrBad {
			t.Error(what, "hash", n, code)
		}
	}
}

// What is not right is told ahead of what is too long.
func TestWrongAheadOfFull(t *testing.T) {
	long := bin(strings.Repeat("\xff", 4000))
	row := []impl.Term{long, long, long, long, long, long, long, long, long, long, long, atom("A")}
	if _, code := impl.TermShow(list(row...)); code != impl.ErrBad {
		t.Error(code)
	}
	if _, code := impl.TermPack(list(row...)); code != impl.ErrBad {
		t.Error(code)
	}
	if _, code := impl.TermShow(list(row[:11]...)); code != impl.ErrFull {
		t.Error(code)
	}
	if _, code := impl.TermPack(list(row[:11]...)); code != impl.ErrFull {
		t.Error(code)
	}
}

// Nothing is written into an argument or the spare room behind it, and an answer shares nothing with it.
func TestArgumentsStay(t *testing.T) {
	room := []impl.Term{num(1), list(num(2)), atom("spare"), atom("room")}
	x := impl.Term{Kind: impl.TmTuple, Kids: room[:2:4]}
	y := impl.Term{Kind: impl.TmMap, Kids: room[:2:4]}
	for _, a := range []impl.Term{x, y} {
		impl.TermOK(a)
		impl.TermSize(a)
		impl.TermCompare(a, a)
		impl.TermShow(a)
		impl.TermPack(a)
		impl.TermHash(a)
	}
	if !same(list(room...), list(num(1), list(num(2)), atom("spare"), atom("room"))) {
		t.Error(room)
	}
}

// No two lists of an answer share memory, nor do two answers.
func TestAnswersShareNothing(t *testing.T) {
	for _, read := range []func() impl.Term{
		func() impl.Term { x, _, _ := impl.TermRead("{[a], [a], #{a => [a]}, #f1{a}}"); return x },
		func() impl.Term {
			x, _ := impl.TermUnpack("\x83h\x04l\x00\x01w\x01al\x00\x01w\x01at\x00\x01w\x01al\x00\x01w\x01ap\x00\x00\x00\x00\x00\x00\x01\x00\x01w\x01a")
			return x
		},
	} {
		first, second := read(), read()
		want := tuple(list(atom("a")), list(atom("a")), dict(atom("a"), list(atom("a"))), fun(1, atom("a")))
		if !same(first, want) {
			t.Fatal(first)
		}
		for i := range first.Kids {
			spoil(&first.Kids[i])
			if rest := first.Kids[i+1:]; !same(list(rest...), list(want.Kids[i+1:]...)) {
				t.Error("a list of the answer is another one's too", first)
			}
		}
		if !same(second, want) {
			t.Error("an answer is another one's too", second)
		}
	}
}

// spoil writes over all Kids of a term and over the room behind them.
func spoil(x *impl.Term) {
	for i := range x.Kids {
		spoil(&x.Kids[i])
		x.Kids[i] = num(77)
	}
	_ = append(x.Kids, num(78), num(79), num(80))
}

// within is a way to put a term into another one, as a term, in a text and in bytes.
type within struct {
	what          string
	wrap          func(impl.Term) impl.Term
	open, end     string // its text around another one's
	before, after string // its bytes around another one's
}

func withins() []within {
	a := atom("a")
	return []within{
		{"list", func(x impl.Term) impl.Term { return list(x) }, "[", "]", "l\x00\x01", ""},
		{"tuple", func(x impl.Term) impl.Term { return tuple(x) }, "{", "}", "h\x01", ""},
		{"fun", func(x impl.Term) impl.Term { return fun(1, x) }, "#f1{", "}", "p" + high(1, 7) + "\x00\x01", ""},
		{"key", func(x impl.Term) impl.Term { return dict(x, a) }, "#{", "=>a}", "t\x00\x01", "w\x01a"},
		{"value", func(x impl.Term) impl.Term { return dict(a, x) }, "#{a=>", "}", "t\x00\x01w\x01a", ""},
	}
}

// Each Kind that holds others makes a term deeper by one, in all that counts how deep it is.
func TestDepthOfEachKind(t *testing.T) {
	for _, w := range withins() {
		for n, want := range map[int]int{99: impl.OK, 100: impl.ErrFull} {
			x := atom("a")
			for range n {
				x = w.wrap(x)
			}
			if impl.TermOK(x) != (want == impl.OK) {
				t.Error(w.what, n, "right")
			}
			text := strings.Repeat(w.open, n) + "a" + strings.Repeat(w.end, n)
			if got, code, at := impl.TermRead(text); code != want || at != 0 || want == impl.OK && !same(got, x) || want != impl.OK && !zero(got) {
				t.Error(w.what, n, "read", code, at)
			}
			data := "\x83" + strings.Repeat(w.before, n) + "w\x01a" + strings.Repeat(w.after, n)
			if got, code := impl.TermUnpack(data); want == impl.OK && (code != impl.OK || !same(got, x)) || want != impl.OK && (code != impl.ErrForm || !zero(got)) {
				t.Error(w.what, n, "unpack", code)
			}
		}
	}
}

// A tuple in the long form is one deeper, too.
func TestDepthOfLongTuple(t *testing.T) {
	row := strings.Repeat("w\x01a", 255)
	for lists, want := range map[int]int{98: impl.OK, 99: impl.ErrForm} {
		data := "\x83" + strings.Repeat("l\x00\x01", lists) + "i\x01\x00" + row + "w\x01a"
		if _, code := impl.TermUnpack(data); code != want {
			t.Error(lists, code)
		}
	}
}
