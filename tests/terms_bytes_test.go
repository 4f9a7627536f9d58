package tests

import (
	"strings"
	"testing"

	"loop.example/g00019/impl"
)

// high is a number in so many bytes, the highest first.
func high(n uint64, size int) string {
	b := make([]byte, size)
	for i := range b {
		b[size-1-i] = byte(n)
		n >>= 8
	}
	return string(b)
}

func TestPackOfEachKind(t *testing.T) {
	a := atom("a")
	for _, x := range []struct {
		t    impl.Term
		want string
	}{
		{num(0), "a\x00"}, {num(255), "a\xff"}, {num(256), "b\x00" + high(256, 7)}, {num(-1), "b\x01" + high(1, 7)}, {num(-255), "b\x01" + high(255, 7)},
		{num(impl.MaxInt), "b\x00\x03\x8d\x7e\xa4\xc6\x80\x00"}, {num(-impl.MaxInt), "b\x01\x03\x8d\x7e\xa4\xc6\x80\x00"},
		{atom("ok"), "w\x02ok"}, {atom("a" + strings.Repeat("b", 29)), "w\x1ea" + strings.Repeat("b", 29)},
		{ref(0), "r" + high(0, 7)}, {ref(258), "r" + high(258, 7)}, {pid(impl.MaxInt), "g" + high(impl.MaxInt, 7)},
		{fun(5), "p" + high(5, 7) + "\x00\x00"}, {fun(5, a, num(1)), "p" + high(5, 7) + "\x00\x02w\x01aa\x01"},
		{tuple(), "h\x00"}, {tuple(a, tuple()), "h\x02w\x01ah\x00"},
		{impl.Term{Kind: impl.TmTuple, Kids: many(a, 255).Kids}, "h\xff" + strings.Repeat("w\x01a", 255)},
		{impl.Term{Kind: impl.TmTuple, Kids: many(a, 256).Kids}, "i\x01\x00" + strings.Repeat("w\x01a", 256)},
		{dict(), "t\x00\x00"}, {dict(num(1), a, a, list()), "t\x00\x02a\x01w\x01aw\x01aj"},
		{list(), "j"}, {list(num(0)), "k\x00\x01\x00"}, {list(num(0), num(255)), "k\x00\x02\x00\xff"}, {many(num(7), 300), "k\x01\x2c" + strings.Repeat("\x07", 300)},
		{list(num(256)), "l\x00\x01b\x00" + high(256, 7)}, {list(num(1), num(-1)), "l\x00\x02a\x01b\x01" + high(1, 7)}, {list(ref(1)), "l\x00\x01r" + high(1, 7)}, {list(list(num(1))), "l\x00\x01k\x00\x01\x01"},
		{bin(""), "m\x00\x00"}, {bin("a\x00\xff"), "m\x00\x03a\x00\xff"}, {binOf(4000), "m\x0f\xa0" + strings.Repeat("\x00", 4000)},
	} {
		want := "\x83" + x.want
		if got, code := impl.TermPack(x.t); got != want || code != impl.OK {
			t.Errorf("%q: %q %d", want, got, code)
		}
		if got, code := impl.TermUnpack(want); !same(got, x.t) || code != impl.OK {
			t.Errorf("%q: %v %d", want, got, code)
		}
	}
}

// P1: TermUnpack reads what TermPack writes, and nothing of it spoilt but what is another term's.
func TestUnpackOfPackedP1(t *testing.T) {
	t.Parallel()
	for _, x := range anyTerms(700) {
		s, code := impl.TermPack(x)
		if code != impl.OK {
			t.Fatal(x, code)
		}
		if got, code := impl.TermUnpack(s); !same(got, x) || code != impl.OK {
			t.Fatalf("%q: %v %d", s, got, code)
		}
		for _, end := range []string{"\x00", "j", "\x83", s} {
			refused(t, s+end)
		}
		if len(s) > 100 {
			continue
		}
		for i := range len(s) {
			refused(t, s[:i])
			for _, c := range []byte{0, 1, 2, s[i] + 1, s[i] - 1, 'a', 'b', 'h', 'i', 'j', 'k', 'l', 'm', 'w', 't', 'r', 'g', 'p', 255} {
				onlyPacked(t, s[:i]+string([]byte{c})+s[i+1:])
				onlyPacked(t, s[:i]+string([]byte{c})+s[i:])
			}
			onlyPacked(t, s[:i]+s[i+1:])
		}
	}
}

func refused(t *testing.T, s string) {
	t.Helper()
	if got, code := impl.TermUnpack(s); !zero(got) || code != impl.ErrForm {
		t.Errorf("%q: %v %d", s, got, code)
	}
}

// onlyPacked: what is read is a right term's one form.
func onlyPacked(t *testing.T, s string) {
	t.Helper()
	got, code := impl.TermUnpack(s)
	if code != impl.OK {
		refused(t, s)
	} else if again, _ := impl.TermPack(got); !impl.TermOK(got) || again != s {
		t.Errorf("%q: read as %q", s, again)
	}
}

func TestUnpackOfEdgesP1(t *testing.T) {
	for what, e := range edgeTerms() {
		s, code := impl.TermPack(e.t)
		if code != impl.OK {
			t.Error(what, code)
		}
		if got, code := impl.TermUnpack(s); !same(got, e.t) || code != impl.OK {
			t.Error(what, code)
		}
	}
}

// P1: bytes that TermPack does not write.
func TestUnpackOfWrongP1(t *testing.T) {
	a := "w\x01a"
	wrong := map[string]string{
		"nothing":                   "",
		"no begin":                  a,
		"another begin":             "\x82" + a,
		"the begin alone":           "\x83",
		"two terms":                 "\x83" + a + a,
		"no such byte":              "\x83c\x01",
		"a byte in the long form":   "\x83b\x00" + high(5, 7),
		"255 in the long form":      "\x83b\x00" + high(255, 7),
		"- 0":                       "\x83b\x01" + high(0, 7),
		"a sign of 2":               "\x83b\x02" + high(300, 7),
		"int above":                 "\x83b\x00" + high(impl.MaxInt+1, 7),
		"int below":                 "\x83b\x01" + high(impl.MaxInt+1, 7),
		"int far above":             "\x83b\x00" + strings.Repeat("\xff", 7),
		"int a byte short":          "\x83b\x00" + high(300, 6),
		"ref above":                 "\x83r" + high(impl.MaxInt+1, 7),
		"pid above":                 "\x83g" + high(impl.MaxInt+1, 7),
		"fun above":                 "\x83p" + high(impl.MaxInt+1, 7) + "\x00\x00",
		"fun a kid short":           "\x83p" + high(1, 7) + "\x00\x02" + a,
		"name empty":                "\x83w\x00",
		"name of 31":                "\x83w\x1f" + strings.Repeat("a", 31),
		"no name":                   "\x83w\x01A",
		"name a byte short":         "\x83w\x03ab",
		"tuple of 1 in long form":   "\x83i\x00\x01" + a,
		"tuple of 255 in long form": "\x83i\x00\xff" + strings.Repeat(a, 255),
		"tuple a kid short":         "\x83h\x02" + a,
		"list of 0 in long form":    "\x83l\x00\x00",
		"list of 0 bytes":           "\x83k\x00\x00",
		"list of bytes as a list":   "\x83l\x00\x02a\x01a\x02",
		"list of bytes, one short":  "\x83k\x00\x02\x01",
		"list, one short":           "\x83l\x00\x02" + a,
		"map's keys fall":           "\x83t\x00\x02a\x02a\x00a\x01a\x00",
		"map's keys alike":          "\x83t\x00\x02a\x01a\x00a\x01a\x00",
		"map, a value short":        "\x83t\x00\x01a\x01",
		"bin a byte short":          "\x83m\x00\x02a",
		"bin of 4001":               "\x83m\x0f\xa1" + strings.Repeat("a", 4001),
		"2001 terms":                "\x83l\x07\xd0" + strings.Repeat(a, 2000),
		"2001 terms, of bytes":      "\x83k\x07\xd0" + strings.Repeat("a", 2000),
		"65535 elements":            "\x83l\xff\xff" + strings.Repeat("j", 38000),
		"101 deep":                  "\x83" + strings.Repeat("l\x00\x01", 100) + a,
		"very deep":                 "\x83" + strings.Repeat("h\x01", 19000) + a,
	}
	for what, s := range wrong {
		if got, code := impl.TermUnpack(s); !zero(got) || code != impl.ErrForm {
			t.Error(what, got, code)
		}
	}
	for _, s := range []string{"\x83l\x07\xcf" + strings.Repeat(a, 1999), "\x83k\x07\xcf" + strings.Repeat("a", 1999), "\x83" + strings.Repeat("l\x00\x01", 99) + a, "\x83m\x0f\xa0" + strings.Repeat("a", 4000)} {
		if _, code := impl.TermUnpack(s); code != impl.OK {
			t.Errorf("%q: %d", s[:9], code)
		}
	}
}

// tenBins is a tuple with 3 + 9 * 4003 + 3 + last packed bytes, and those bytes, made by hand.
func tenBins(last int) (impl.Term, string) {
	kids := many(binOf(4000), 9).Kids
	kids = append(kids, binOf(last))
	long := "m\x0f\xa0" + strings.Repeat("\x00", 4000)
	return tuple(kids...), "\x83h\x0a" + strings.Repeat(long, 9) + "m" + high(uint64(last), 2) + strings.Repeat("\x00", last)
}

func TestPackAtItsLimitP1(t *testing.T) {
	x, want := tenBins(3967)
	if got, code := impl.TermPack(x); got != want || len(got) != impl.MaxPacked || code != impl.OK {
		t.Error(len(got), code)
	}
	if got, code := impl.TermUnpack(want); !same(got, x) || code != impl.OK {
		t.Error(code)
	}
	x, want = tenBins(3968)
	if got, code := impl.TermPack(x); got != "" || len(want) != impl.MaxPacked+1 || code != impl.ErrFull {
		t.Error(len(got), code)
	}
	refused(t, want)
}

// hashByWords makes the number of a term's bytes one after the other.
func hashByWords(x impl.Term) int {
	var bytes func(x impl.Term) string
	bytes = func(x impl.Term) string {
		n := uint64(x.N)
		if x.N < 0 {
			n = uint64(1<<63) - uint64(-x.N)
		}
		s := string([]byte{byte(x.Kind)}) + high(n, 8) + high(uint64(len(x.S)), 2) + x.S + high(uint64(len(x.Kids)), 2)
		for _, kid := range x.Kids {
			s += bytes(kid)
		}
		return s
	}
	h := 5381
	for _, b := range []byte(bytes(x)) {
		h = (h*33 + int(b)) % 4294967296
	}
	return h
}

func TestHash(t *testing.T) {
	for want, x := range map[int]impl.Term{3165968683: num(5)} {
		if got, code := impl.TermHash(x); got != want || code != impl.OK {
			t.Error(got, code)
		}
	}
	all := anyTerms(500)
	for _, e := range edgeTerms() {
		all = append(all, e.t)
	}
	for _, x := range all {
		if got, code := impl.TermHash(x); got != hashByWords(x) || code != impl.OK {
			t.Error(x, got, code)
		}
	}
}
