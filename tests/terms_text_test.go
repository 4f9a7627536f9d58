package tests

import (
	"strconv"
	"strings"
	"testing"

	"loop.example/g00019/impl"
)

func TestShowOfEachKind(t *testing.T) {
	a, b := atom("a"), atom("b")
	for want, x := range map[string]impl.Term{
		"0":                               num(0),
		"-7":                              num(-7),
		"1000000000000000":                num(impl.MaxInt),
		"-1000000000000000":               num(-impl.MaxInt),
		"x_Y9":                            atom("x_Y9"),
		"#r0":                             ref(0),
		"#r12":                            ref(12),
		"#p1000000000000000":              pid(impl.MaxInt),
		"#f3{}":                           fun(3),
		"#f0{a, [b]}":                     fun(0, a, list(b)),
		"{}":                              tuple(),
		"{a}":                             tuple(a),
		"{a, {}, -1}":                     tuple(a, tuple(), num(-1)),
		"[]":                              list(),
		"[a, b]":                          list(a, b),
		"[97, 98]":                        list(num(97), num(98)),
		"#{}":                             dict(),
		"#{a => 1}":                       dict(a, num(1)),
		"#{1 => #{}, a => {b}, [] => []}": dict(num(1), dict(), a, tuple(b), list(), list()),
		"<<>>":                            bin(""),
		"<<0>>":                           bin("\x00"),
		"<<97, 255, 10>>":                 bin("a\xff\n"),
	} {
		if got, code := impl.TermShow(x); got != want || code != impl.OK {
			t.Errorf("%s: %q %d", want, got, code)
		}
	}
}

// P1: TermRead reads what TermShow writes, with and without blanks between the words.
func TestReadOfShownP1(t *testing.T) {
	for _, x := range anyTerms(1500) {
		s, code := impl.TermShow(x)
		if code != impl.OK {
			t.Fatal(code)
		}
		for _, text := range []string{s, strings.ReplaceAll(s, " ", ""), strings.ReplaceAll(s, " ", "\n  "), " \n" + s + "\n ", spaced(s)} {
			if got, code, at := impl.TermRead(text); !same(got, x) || code != impl.OK || at != 0 {
				t.Fatalf("%q: %v %d %d", text, got, code, at)
			}
		}
	}
}

// spaced puts blanks around all signs of a text.
func spaced(s string) string {
	for _, sign := range []string{"{", "}", "[", "]", "<<", ">>", ",", "=>"} {
		s = strings.ReplaceAll(s, sign, " "+sign+"\n")
	}
	return strings.ReplaceAll(s, "# {", " #{ ")
}

func TestReadOfEdgesP1(t *testing.T) {
	for what, e := range edgeTerms() {
		s, code := impl.TermShow(e.t)
		if code != impl.OK {
			t.Error(what, code)
		}
		if got, code, at := impl.TermRead(s); !same(got, e.t) || code != impl.OK || at != 0 {
			t.Error(what, code, at)
		}
	}
}

// binOf is a Bin whose text has 3 * n + 2 bytes.
func binOf(n int) impl.Term { return bin(strings.Repeat("\x00", n)) }

func TestShowAtItsLimit(t *testing.T) {
	// [ ] are 2 bytes, two commas 4, the Bins 12002 and 7991, the name 1 and more.
	for more, want := range map[int]int{0: impl.OK, 1: impl.ErrFull} {
		x := list(binOf(4000), binOf(2663), atom(strings.Repeat("a", 1+more)))
		s, code := impl.TermShow(x)
		if code != want || code == impl.OK && len(s) != impl.MaxText || code != impl.OK && s != "" {
			t.Error(more, len(s), code)
		}
		if got, code, _ := impl.TermRead(s); want == impl.OK && (!same(got, x) || code != impl.OK) {
			t.Error(code)
		}
	}
	for _, x := range []impl.Term{
		many(atom(strings.Repeat("a", 9)), 1999), many(ref(12345678), 1999), many(pid(12345678), 1999), many(fun(123456), 1999), many(num(123456789), 1999),
		many(bin("abcd"), 1500), dict(many(num(123456789), 900), many(num(123456789), 1000)), fun(1, many(num(123456789), 1990)), tuple(many(num(123456789), 1990)),
	} {
		if s, code := impl.TermShow(x); s != "" || code != impl.ErrFull {
			t.Error(len(s), code)
		}
	}
}

func TestReadAtItsLimit(t *testing.T) {
	blanks := strings.Repeat(" ", impl.MaxText-1)
	if got, code, at := impl.TermRead("7" + blanks); !same(got, num(7)) || code != impl.OK || at != 0 {
		t.Error(got, code, at)
	}
	if got, code, at := impl.TermRead(blanks + "}"); !zero(got) || code != impl.ErrText || at != impl.MaxText-1 {
		t.Error(got, code, at)
	}
	for _, s := range []string{"7" + blanks + " ", blanks + "}}", strings.Repeat("{", impl.MaxText+1)} {
		if got, code, at := impl.TermRead(s); !zero(got) || code != impl.ErrBad || at != 0 {
			t.Error(got, code, at)
		}
	}
}

func TestReadInAnyForm(t *testing.T) {
	a := atom("a")
	for s, want := range map[string]impl.Term{
		"{a,1}":                              tuple(a, num(1)),
		"{ a\n,\n1 }":                        tuple(a, num(1)),
		"[-1]":                               list(num(-1)),
		"#f3 { a }":                          fun(3, a),
		"#{ }":                               dict(),
		"<< 1,2 >>":                          bin("\x01\x02"),
		"<<>>":                               bin(""),
		"[<<>>,<<0>>]":                       list(bin(""), bin("\x00")),
		"#{b=>1,a=>2}":                       dict(a, num(2), atom("b"), num(1)),
		"#{a=>1,a=>2}":                       dict(a, num(2)),
		"#{a=>1,b=>3,a=>2}":                  dict(a, num(2), atom("b"), num(3)),
		"#{a=>3,a=>2,a=>1,1=>a,a=>0}":        dict(num(1), a, a, num(0)),
		"#{#{b=>1,a=>2}=>1,#{a=>2}=>2}":      dict(dict(a, num(2)), num(2), dict(a, num(2), atom("b"), num(1)), num(1)),
		"#{#{b=>1,a=>2}=>1,#{a=>2,b=>1}=>2}": dict(dict(a, num(2), atom("b"), num(1)), num(2)),
		"#{#{a=>1,a=>2}=>x,#{a=>2}=>y}":      dict(dict(a, num(2)), atom("y")),
		"#{[]=>5,{}=>4,#p0=>3,#f0{}=>2,#r0=>1,a=>0,1=>-1}": dict(num(1), num(-1), a, num(0), ref(0), num(1), fun(0), num(2), pid(0), num(3), tuple(), num(4), list(), num(5)),
	} {
		if got, code, at := impl.TermRead(s); !same(got, want) || code != impl.OK || at != 0 {
			t.Errorf("%q: %v %d %d", s, got, code, at)
		}
	}
}

// manyKeys is a text of a map with n keys, of which only few are unlike.
func manyKeys(n int) string {
	var parts []string
	for i := range n {
		parts = append(parts, strconv.Itoa(i%3)+"=>0")
	}
	return "#{" + strings.Join(parts, ",") + "}"
}

// In a map that is read all keys and values count, and ErrFull comes behind ErrText only.
func TestReadOfTooMuch(t *testing.T) {
	ones := func(n int) string { return strings.Repeat("1,", n-1) + "1" }
	deep := func(n int) string { return strings.Repeat("[", n) + strings.Repeat("]", n) }
	for _, x := range []struct {
		what, s string
		code    int
	}{
		{"2000 terms", "[" + ones(1999) + "]", impl.OK},
		{"2001 terms", "[" + ones(2000) + "]", impl.ErrFull},
		{"100 deep", deep(100), impl.OK},
		{"101 deep", deep(101), impl.ErrFull},
		{"100 deep, a number", "{" + strings.Repeat("[", 98) + "1" + strings.Repeat("]", 98) + "}", impl.OK},
		{"101 deep, a number", "#f1{" + strings.Repeat("[", 99) + "1" + strings.Repeat("]", 99) + "}", impl.ErrFull},
		{"101 deep, a key", "#{" + deep(100) + "=>1}", impl.ErrFull},
		{"101 deep, a value", "#{1=>" + deep(100) + "}", impl.ErrFull},
		{"bin of 4000", "<<" + ones(4000) + ">>", impl.OK},
		{"bin of 4001", "<<" + ones(4001) + ">>", impl.ErrFull},
		{"1999 in a map", manyKeys(999), impl.OK},
		{"2001 in a map", manyKeys(1000), impl.ErrFull},
		{"2000 with a map", "[" + manyKeys(999) + "]", impl.OK},
		{"2001 with a map", "[" + manyKeys(999) + ",1]", impl.ErrFull},
		{"too deep where it is lost", "#{a=>" + deep(100) + ",a=>1}", impl.ErrFull},
		{"a long bin where it is lost", "#{a=><<" + ones(4001) + ">>,a=>1}", impl.ErrFull},
		{"very deep", deep(9990), impl.ErrFull},
		{"very deep, of maps", strings.Repeat("#{1=>", 3000) + "1" + strings.Repeat("}", 3000), impl.ErrFull},
	} {
		got, code, at := impl.TermRead(x.s)
		if code != x.code || at != 0 || code != impl.OK && !zero(got) || code == impl.OK && !impl.TermOK(got) {
			t.Error(x.what, code, at)
		}
		if got, code, at := impl.TermRead(x.s + " ]"); !zero(got) || code != impl.ErrText || at != len(x.s)+1 {
			t.Error(x.what, "and a wrong word", code, at)
		}
		if got, code, at := impl.TermRead(x.s[:len(x.s)-1]); !zero(got) || code != impl.ErrText || at < len(x.s)-2 {
			t.Error(x.what, "and a word less", code, at)
		}
	}
}

// Each wrong text with the place that is told.
func TestReadOfWrong(t *testing.T) {
	long := strings.Repeat("a", 31)
	for _, x := range []struct {
		s  string
		at int
	}{
		{"", 0}, {" ", 1}, {"\n \n", 3}, {"\t1", 0}, {"1\t", 1}, {"1\r", 1}, {"\x00", 0}, {"a\xe9", 1}, {"\xe9", 0},
		{"A", 0}, {"_a", 0}, {"[A]", 1}, {long, 0}, {"[" + long + "]", 1}, {"{" + long[1:] + "}", 99}, {"a b", 2}, {"a.", 1}, {"a-1", 1},
		{"01", 0}, {"00", 0}, {"-0", 0}, {"-01", 0}, {"-", 0}, {"- 1", 0}, {"--1", 0}, {"-a", 0}, {"+1", 0}, {"1a", 0}, {"1_", 0}, {"1Z", 0}, {"-1a", 0}, {"1-2", 1}, {"1.0", 1}, {"1 -2", 2},
		{"1000000000000001", 0}, {"-1000000000000001", 0}, {"10000000000000000000000", 0}, {"18446744073709551617", 0}, {"[1, 1000000000000001]", 4}, {"1000000000000000", 99}, {"-1000000000000000", 99},
		{"#", 0}, {"# r1", 0}, {"#r", 0}, {"#r 1", 0}, {"#r-1", 0}, {"#r01", 0}, {"#r1a", 0}, {"#r1_", 0}, {"#rr", 0}, {"#r1000000000000001", 0}, {"#r1000000000000000", 99}, {"#r0", 99}, {"#R1", 0}, {"#q1", 0}, {"# {}", 0},
		{"#p", 0}, {"#p-1", 0}, {"#p1#p2", 3}, {"#p1{}", 3}, {"#r1{}", 3}, {"#p1000000000000001", 0},
		{"#f", 0}, {"#f3", 3}, {"#f3 ", 4}, {"#f3[", 3}, {"#f3a", 0}, {"#f3 a", 4}, {"#f{}", 0}, {"#f-3{}", 0}, {"#f03{}", 0}, {"#f3{a", 5}, {"#f3{a b}", 6}, {"#f3{,}", 4}, {"#f3{a]", 5}, {"[#f3]", 4}, {"#f1000000000000001{}", 0},
		{"{", 1}, {"}", 0}, {"{a", 2}, {"{a,", 3}, {"{a,}", 3}, {"{,a}", 1}, {"{a,,b}", 3}, {"{a b}", 3}, {"{a]", 2}, {"{a}}", 3}, {"{}{}", 2}, {"{a;b}", 2},
		{"[", 1}, {"]", 0}, {"[1, 2", 5}, {"[1, 2  ", 7}, {"[1,]", 3}, {"[,]", 1}, {"[1}", 2}, {"[1|2]", 2}, {"[1] 2", 4}, {",", 0}, {"1,", 1},
		{"#{", 2}, {"#{a", 3}, {"#{a}", 3}, {"#{a,", 3}, {"#{a=", 3}, {"#{a=>", 5}, {"#{a=>}", 5}, {"#{a=>1", 6}, {"#{a=>1,", 7}, {"#{a=>1,}", 7}, {"#{,}", 2}, {"#{=>1}", 2}, {"#{a= >1}", 3}, {"#{a=>1 b=>2}", 7}, {"#{a=>1=>2}", 6}, {"#{a=>1]", 6}, {"#{a=>>>", 5}, {"{a=>1}", 2}, {"=>", 0}, {"=", 0},
		{"<<", 2}, {"<", 0}, {"< <>>", 0}, {">>", 0}, {"<<>", 2}, {"<<> >", 2}, {"<<1", 3}, {"<<1,", 4}, {"<<1,>>", 4}, {"<<,>>", 2}, {"<<1 2>>", 4}, {"<<1>>>", 5}, {"<<256>>", 2}, {"<<255>>", 99}, {"<<-1>>", 2}, {"<<0,1,256,x>>", 6}, {"<<a>>", 2}, {"<<#r1>>", 2}, {"<<[1]>>", 2}, {"<<<<1>>>>", 2}, {"<<01>>", 2}, {"<<1,-0>>", 4}, {"<<1000000000000000>>", 2}, {"<<1}", 3},
		{"\"a\"", 0}, {"'a'", 0}, {"%", 0}, {"a %", 2}, {"[a, ?, ]", 4}, {"[a ?", 3}, {"? [", 0}, {"[[[[", 4}, {"{[#{a => <<", 11},
	} {
		got, code, at := impl.TermRead(x.s)
		if x.at == 99 {
			if code != impl.OK || at != 0 || zero(got) {
				t.Errorf("%q: %d %d, should be read", x.s, code, at)
			}
		} else if code != impl.ErrText || at != x.at || !zero(got) {
			t.Errorf("%q: %d %d, not %d", x.s, code, at, x.at)
		}
	}
}

// Of many keys that are alike the last one counts, however many stand between them.
func TestReadOfManyAlike(t *testing.T) {
	var parts []string
	last := map[int]int{}
	for i := range 400 {
		key := i * 37 % 100
		last[key] = i
		parts = append(parts, strconv.Itoa(key)+"=>"+strconv.Itoa(i))
	}
	var want []impl.Term
	for key := range 100 {
		want = append(want, num(key), num(last[key]))
	}
	got, code, at := impl.TermRead("#{" + strings.Join(parts, ",") + "}")
	if !same(got, dict(want...)) || code != impl.OK || at != 0 {
		t.Error(got, code, at)
	}
}
