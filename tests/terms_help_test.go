package tests

import (
	"math/rand"
	"sort"
	"strings"
	"testing"

	"loop.example/g00019/impl"
)

func num(n int) impl.Term { return impl.Term{Kind: impl.TmInt, N: n} }

func atom(s string) impl.Term { return impl.Term{Kind: impl.TmAtom, S: s} }

func ref(n int) impl.Term { return impl.Term{Kind: impl.TmRef, N: n} }

func pid(n int) impl.Term { return impl.Term{Kind: impl.TmPid, N: n} }

func bin(s string) impl.Term { return impl.Term{Kind: impl.TmBin, S: s} }

func fun(n int, kids ...impl.Term) impl.Term {
	return impl.Term{Kind: impl.TmFun, N: n, Kids: kids}
}

func tuple(kids ...impl.Term) impl.Term { return impl.Term{Kind: impl.TmTuple, Kids: kids} }

func list(kids ...impl.Term) impl.Term { return impl.Term{Kind: impl.TmList, Kids: kids} }

// dict is a map whose keys have to stand in their order already.
func dict(kids ...impl.Term) impl.Term { return impl.Term{Kind: impl.TmMap, Kids: kids} }

// same tells whether two terms are field by field alike, without the program's own order.
func same(a, b impl.Term) bool {
	if a.Kind != b.Kind || a.N != b.N || a.S != b.S || len(a.Kids) != len(b.Kids) {
		return false
	}
	for i := range a.Kids {
		if !same(a.Kids[i], b.Kids[i]) {
			return false
		}
	}
	return true
}

func zero(t impl.Term) bool { return same(t, impl.Term{}) }

// nest is a term within so many lists.
func nest(t impl.Term, lists int) impl.Term {
	for range lists {
		t = list(t)
	}
	return t
}

// many is a list of n times the same element: n + 1 terms.
func many(t impl.Term, n int) impl.Term {
	kids := make([]impl.Term, n)
	for i := range kids {
		kids[i] = t
	}
	return list(kids...)
}

// ladder is right terms that rise, with each rule of the order between some two of them.
func ladder() []impl.Term {
	a, b, x := atom("a"), atom("b"), atom("x")
	return []impl.Term{
		num(-impl.MaxInt), num(-2), num(-1), num(0), num(1), num(255), num(256), num(impl.MaxInt),
		a, atom("a0"), atom("aB"), atom("a_"), atom("aa"), b, atom(strings.Repeat("z", impl.MaxName)),
		ref(0), ref(1), ref(impl.MaxInt),
		fun(0), fun(0, num(9)), fun(0, x), fun(0, num(1), num(2)), fun(0, num(2), num(1)), fun(1), fun(1, num(0)), fun(impl.MaxInt),
		pid(0), pid(7), pid(impl.MaxInt),
		tuple(), tuple(num(9)), tuple(list()), tuple(num(1), num(1)), tuple(num(1), num(2)), tuple(num(2), num(0)), tuple(a, num(0)), tuple(num(0), num(0), num(0)),
		dict(), dict(num(1), num(9)), dict(num(2), num(0)), dict(num(1), num(0), num(2), num(9)), dict(num(1), num(1), num(2), num(0)), dict(num(1), num(1), num(2), num(1)),
		dict(num(1), num(0), num(3), num(0)), dict(a, num(0), b, num(0)), dict(num(0), a, num(1), a, num(2), a),
		list(), list(num(1)), list(num(1), num(0)), list(num(1), num(0), num(0)), list(num(1), num(1)), list(num(2)), list(a), list(list()), list(bin("")),
		bin(""), bin("\x00"), bin("\x00\x00"), bin("\x01"), bin("a"), bin("a\x00"), bin("\x7f"), bin("\x80"), bin("\xff"), bin("\xff\x00"), bin(strings.Repeat("\xff", 600)),
	}
}

// anyTerm is a right term by chance, the same ones in each run.
func anyTerm(r *rand.Rand, deep int) impl.Term {
	few := []int{0, 1, 2, 255, 256, impl.MaxInt}
	n := few[r.Intn(len(few))]
	kinds := 9
	if deep == 0 {
		kinds = 5
	}
	switch r.Intn(kinds) {
	case 0:
		return num(n * (1 - 2*r.Intn(2)))
	case 1:
		return atom([]string{"a", "b", "aB", "ok", "x_1"}[r.Intn(5)])
	case 2:
		return ref(n)
	case 3:
		return pid(n)
	case 4:
		return bin(strings.Repeat(string([]byte{byte(r.Intn(256))}), r.Intn(3)))
	case 5:
		return fun(n, anyRow(r, deep)...)
	case 6:
		return tuple(anyRow(r, deep)...)
	case 7:
		return list(anyRow(r, deep)...)
	}
	return anyDict(r, deep)
}

func anyRow(r *rand.Rand, deep int) []impl.Term {
	var row []impl.Term
	for range r.Intn(4) {
		row = append(row, anyTerm(r, deep-1))
	}
	return row
}

func anyDict(r *rand.Rand, deep int) impl.Term {
	keys := anyRow(r, deep)
	sort.SliceStable(keys, func(i, k int) bool { return orderByWords(keys[i], keys[k]) < 0 })
	var kids []impl.Term
	for i, k := range keys {
		if i == 0 || orderByWords(keys[i-1], k) != 0 {
			kids = append(kids, k, anyTerm(r, deep-1))
		}
	}
	return dict(kids...)
}

// anyTerms is the ladder and as many terms by chance as asked.
func anyTerms(n int) []impl.Term {
	r := rand.New(rand.NewSource(1))
	all := ladder()
	for range n {
		all = append(all, anyTerm(r, 4))
	}
	return all
}

// wrongTerms is terms that are not right, each with what is wrong about it.
func wrongTerms() map[string]impl.Term {
	loop := make([]impl.Term, 2)
	loop[0] = impl.Term{Kind: impl.TmTuple, Kids: loop}
	loop[1] = impl.Term{Kind: impl.TmList, Kids: loop}
	twice := num(0)
	for range 99 {
		twice = list(twice, twice)
	}
	kid := []impl.Term{num(1)}
	a := atom("a")
	return map[string]impl.Term{
		"zero":                   {},
		"kind below":             {Kind: -1},
		"kind above":             {Kind: 10},
		"int above":              num(impl.MaxInt + 1),
		"int below":              num(-impl.MaxInt - 1),
		"least int":              num(-1 << 63),
		"greatest int":           num(1<<63 - 1),
		"int with text":          {Kind: impl.TmInt, S: "a"},
		"int with kids":          {Kind: impl.TmInt, Kids: kid},
		"name empty":             atom(""),
		"name of 31":             atom(strings.Repeat("a", 31)),
		"name begins upper":      atom("Ab"),
		"name begins digit":      atom("1a"),
		"name begins _":          atom("_a"),
		"name with blank":        atom("a b"),
		"name with line feed":    atom("ab\n"),
		"name with byte above":   atom("a\xe9"),
		"name with sign":         atom("a-b"),
		"name with @":            atom("a@"),
		"name with [":            atom("a["),
		"name with `":            atom("a`"),
		"name with brace":        atom("a{"),
		"name with slash":        atom("a/"),
		"name with colon":        atom("a:"),
		"name begins `":          atom("`"),
		"name begins brace":      atom("{"),
		"atom with number":       {Kind: impl.TmAtom, N: 1, S: "a"},
		"atom with kids":         {Kind: impl.TmAtom, S: "a", Kids: kid},
		"ref below":              ref(-1),
		"ref above":              ref(impl.MaxInt + 1),
		"ref with text":          {Kind: impl.TmRef, S: "a"},
		"ref with kids":          {Kind: impl.TmRef, Kids: kid},
		"pid below":              pid(-1),
		"pid above":              pid(impl.MaxInt + 1),
		"pid with text":          {Kind: impl.TmPid, S: "a"},
		"pid with kids":          {Kind: impl.TmPid, Kids: kid},
		"fun below":              fun(-1),
		"fun above":              fun(impl.MaxInt + 1),
		"fun with text":          {Kind: impl.TmFun, S: "a"},
		"fun with a wrong kid":   fun(1, atom("A")),
		"tuple with number":      {Kind: impl.TmTuple, N: 1},
		"tuple with text":        {Kind: impl.TmTuple, S: "a"},
		"tuple with a wrong kid": tuple(num(1), impl.Term{}),
		"map with number":        {Kind: impl.TmMap, N: 1},
		"map with text":          {Kind: impl.TmMap, S: "a"},
		"map with half a pair":   dict(num(1), num(2), num(3)),
		"map's keys fall":        dict(num(2), a, num(1), a),
		"map's keys alike":       dict(num(1), a, num(1), a),
		"map's last key falls":   dict(num(1), a, num(3), a, num(2), a),
		"map with a wrong key":   dict(atom("A"), a),
		"map with a wrong value": dict(a, atom("A")),
		"map within falls":       list(dict(bin(""), a, list(), a)),
		"list with number":       {Kind: impl.TmList, N: 1},
		"list with text":         {Kind: impl.TmList, S: "a"},
		"list with a wrong kid":  list(a, num(impl.MaxInt+1)),
		"bin of 4001":            bin(strings.Repeat("a", 4001)),
		"bin with number":        {Kind: impl.TmBin, N: 1},
		"bin with kids":          {Kind: impl.TmBin, Kids: kid},
		"2001 terms":             many(a, 2000),
		"2001 terms in two rows": list(many(a, 999), many(a, 999)),
		"101 deep":               nest(a, 100),
		"within itself":          list(loop...),
		"two each, 100 deep":     twice,
		"a million kids":         list(make([]impl.Term, 1000000)...),
	}
}

func TestHelpersOfTerms(t *testing.T) {
	if !same(list(num(1), bin("a")), list(num(1), bin("a"))) || same(list(num(1)), list(num(2))) || same(num(1), ref(1)) || same(tuple(), tuple(num(1))) {
		t.Error("same")
	}
	if !zero(impl.Term{}) || zero(num(0)) {
		t.Error("zero")
	}
}
