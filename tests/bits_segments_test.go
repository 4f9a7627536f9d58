package tests

import (
	"math/rand"
	"slices"
	"strconv"
	"strings"
	"testing"

	"loop.example/g00019/impl"
)

// little and signed are a segment in another form.
func little(s impl.Seg) impl.Seg { s.Little = true; return s }

func signed(s impl.Seg) impl.Seg { s.Signed = true; return s }

func unit(s impl.Seg, n int) impl.Seg { s.Unit = n; return s }

// built holds BitBuild against an answer that is written out.
func built(t *testing.T, what string, segs []impl.Seg, want string, wantCode int) {
	t.Helper()
	b, code := impl.BitBuild(segs)
	if b != row(want) || code != wantCode {
		t.Errorf("%s: %d bits, code %d instead of %d", what, b.Len, code, wantCode)
	}
}

// matched holds BitMatch against an answer that is written out.
func matched(t *testing.T, what string, b impl.Bits, segs []impl.Seg, wantCode int, want ...impl.Term) {
	t.Helper()
	terms, code := impl.BitMatch(b, segs)
	if !sameRow(terms, want) || code != wantCode {
		t.Errorf("%s: %v, code %d instead of %d", what, terms, code, wantCode)
	}
}

func TestBuildWrittenOut(t *testing.T) {
	built(t, "none", nil, "", impl.OK)
	built(t, "an Int", []impl.Seg{ints(5, 8)}, "00000101", impl.OK)
	built(t, "an Int that does not fit", []impl.Seg{ints(0x1ff, 4)}, "1111", impl.OK)
	built(t, "an Int below 0", []impl.Seg{signed(ints(-2, 5))}, "11110", impl.OK)
	built(t, "little", []impl.Seg{little(ints(0x123, 12))}, "00100011 0001", impl.OK)
	built(t, "little, behind a bit", []impl.Seg{ints(1, 1), little(ints(0x123, 12)), ints(2, 2)}, "1 00100011 0001 10", impl.OK)
	built(t, "units of an Int", []impl.Seg{unit(ints(0x123, 3), 4)}, "0001 0010 0011", impl.OK)
	built(t, "units of an Int, little", []impl.Seg{little(unit(ints(0x123, 4), 3))}, "0010 0011 0001", impl.OK)
	built(t, "width 0", []impl.Seg{ints(9, 0), bins("ab", 0, 8), unit(ints(9, 0), 256), ints(1, 2)}, "01", impl.OK)
	built(t, "width 49", []impl.Seg{unit(ints(1<<48+1, 7), 7)}, "1"+strings.Repeat("0", 47)+"1", impl.OK)
	built(t, "bins", []impl.Seg{bins("a", -1, 8), bins("bc", 1, 8)}, "01100001 01100010", impl.OK)
	built(t, "all of a Bin ahead of others", []impl.Seg{bins("a", -1, 8), ints(1, 1), bins("", -1, 256), bins("\xff", -1, 1)}, "01100001 1 11111111", impl.OK)
	built(t, "some bits of a Bin", []impl.Seg{bins("\xaa\xff", 3, 3), bins("\xf0", 5, 1)}, "101010101 11110", impl.OK)
	built(t, "a Bin of one unit", []impl.Seg{bins(strings.Repeat("\xff", 33), 1, 256)}, strings.Repeat("1", 256), impl.OK)
	built(t, "units of a whole Bin", []impl.Seg{bins(strings.Repeat("\x01", 32), -1, 256)}, strings.Repeat("00000001", 32), impl.OK)
}

func TestMatchWrittenOut(t *testing.T) {
	r := row("0001 0110 0001")
	matched(t, "none of nothing", row(""), nil, impl.OK)
	matched(t, "none of some", r, nil, impl.ErrMatch)
	matched(t, "none of a bit", row("0"), nil, impl.ErrMatch)
	matched(t, "an Int", r, []impl.Seg{ints(0, 12)}, impl.OK, num(0x161))
	matched(t, "little", r, []impl.Seg{little(ints(0, 12))}, impl.OK, num(0x116))
	matched(t, "little behind others", row("1 00100011 1001"), []impl.Seg{ints(0, 1), signed(little(ints(0, 12)))}, impl.OK, num(1), num(0x923-0x1000))
	matched(t, "signed", row("1000 0111"), []impl.Seg{signed(ints(0, 4)), signed(ints(0, 4))}, impl.OK, num(-8), num(7))
	matched(t, "a Bin behind", r, []impl.Seg{ints(0, 4), bins("", -1, 8)}, impl.OK, num(1), bin("a"))
	matched(t, "a Bin ahead", r, []impl.Seg{bins("", 1, 8), ints(0, 4)}, impl.OK, bin("\x16"), num(1))
	matched(t, "no whole byte", r, []impl.Seg{ints(0, 3), bins("", -1, 1)}, impl.OK, num(0), bin("\xb0\x80"))
	matched(t, "no whole byte, from the first bit", r, []impl.Seg{bins("", 4, 1), bins("", 8, 1)}, impl.OK, bin("\x10"), bin("\x61"))
	matched(t, "no bits at all", row(""), []impl.Seg{ints(0, 0), bins("", 0, 256), bins("", -1, 256)}, impl.OK, num(0), bin(""), bin(""))
	matched(t, "no bits behind", r, []impl.Seg{ints(0, 12), bins("", -1, 7)}, impl.OK, num(0x161), bin(""))
	matched(t, "units", r, []impl.Seg{bins("", -1, 3)}, impl.OK, bin("\x16\x10"))
	matched(t, "units that leave some", r, []impl.Seg{bins("", -1, 8)}, impl.ErrMatch)
	matched(t, "units greater than all", r, []impl.Seg{bins("", -1, 256)}, impl.ErrMatch)
	matched(t, "units that leave some of the rest", r, []impl.Seg{ints(0, 3), bins("", -1, 2)}, impl.ErrMatch)
	matched(t, "a bit too few of an Int", r, []impl.Seg{ints(0, 13)}, impl.ErrMatch)
	matched(t, "a bit too few of a Bin", r, []impl.Seg{bins("", 13, 1)}, impl.ErrMatch)
	matched(t, "a bit too few behind others", r, []impl.Seg{ints(0, 6), ints(0, 7)}, impl.ErrMatch)
	matched(t, "a bit left", r, []impl.Seg{ints(0, 11)}, impl.ErrMatch)
	matched(t, "a bit left behind a Bin", r, []impl.Seg{bins("", 11, 1)}, impl.ErrMatch)
	matched(t, "bits lack ahead of the rest", r, []impl.Seg{bins("", 13, 1), bins("", -1, 1)}, impl.ErrMatch)
	matched(t, "V is not looked at", row("1"), []impl.Seg{{Type: impl.SgInt, Size: 1, Unit: 1, V: atom("A")}}, impl.OK, num(1))
	matched(t, "V of another Kind", r, []impl.Seg{{Type: impl.SgBin, Size: -1, Unit: 1, V: num(3)}}, impl.OK, bin("\x16\x10"))
}

// wrongSegs is segments that are none, each with what is wrong about it.
func wrongSegs() map[string]impl.Seg {
	i, b := ints(1, 8), bins("a", 1, 8)
	wrong := map[string]impl.Seg{
		"zero":                      {},
		"zero but for V":            {V: num(1)},
		"type 0":                    {Type: 0, Size: 1, Unit: 1, V: num(1)},
		"type 3":                    {Type: 3, Size: 1, Unit: 1, V: num(1)},
		"type -1":                   {Type: -1, Size: 1, Unit: 1, V: num(1)},
		"an Int of all":             ints(1, -1),
		"an Int of all, no units":   unit(ints(1, -1), 256),
		"an Int of 50":              ints(1, 50),
		"an Int of 5 times 10":      unit(ints(1, 5), 10),
		"an Int of 10 times 5":      unit(ints(1, 10), 5),
		"an Int of 256":             unit(ints(1, 1), 256),
		"an Int of 32000":           ints(1, 32000),
		"an Int's unit 0":           unit(i, 0),
		"an Int's unit 257":         unit(ints(1, 0), 257),
		"an Int's size below -1":    ints(1, -2),
		"a Bin's unit 0":            unit(b, 0),
		"a Bin's unit below 0":      unit(b, -1),
		"a Bin's unit 257":          bins("", 0, 257),
		"a Bin's unit 257, of all":  bins("", -1, 257),
		"a Bin's size below -1":     bins("a", -2, 1),
		"a Bin's size 32001":        bins("a", 32001, 1),
		"a Bin that is signed":      signed(b),
		"a Bin that is little":      little(b),
		"all of a Bin that is both": signed(little(bins("a", -1, 8))),
	}
	for _, n := range extremes() {
		text := strconv.Itoa(n)
		wrong["size "+text] = ints(1, n)
		wrong["unit "+text] = unit(ints(1, 0), n)
		wrong["bin's size "+text] = bins("", n, 256)
		wrong["bin's unit "+text] = bins("", -1, n)
		wrong["type "+text] = impl.Seg{Type: n, Size: 0, Unit: 1, V: num(1)}
	}
	return wrong
}

func TestWrongSegs(t *testing.T) {
	i := ints(1, 0)
	for what, w := range wrongSegs() {
		for _, segs := range [][]impl.Seg{{w}, {i, w}, {w, i}, {ints(0, 0), bins("", 0, 1), w, i}} {
			built(t, what, segs, "", impl.ErrBad)
			matched(t, what, row(""), segs, impl.ErrBad)
			matched(t, what, row("1"), segs, impl.ErrBad)
		}
	}
}

func TestSegsAtTheirLimits(t *testing.T) {
	for what, s := range map[string]impl.Seg{
		"an Int of 49":     signed(ints(-1, 49)),
		"49 times 1":       unit(ints(-1, 1), 49),
		"7 times 7":        little(unit(ints(-1, 7), 7)),
		"no units of 256":  unit(ints(-1, 0), 256),
		"a Bin of 32000":   bins(strings.Repeat("\xff", 4000), 32000, 1),
		"125 times 256":    bins(strings.Repeat("\xff", 4000), 125, 256),
		"all of 32000":     bins(strings.Repeat("\xff", 4000), -1, 256),
		"no units of 256 ": bins("", 0, 256),
	} {
		want, _ := buildByWords([]impl.Seg{s})
		if strings.Contains(want, "0") {
			t.Fatal(what)
		}
		built(t, what, []impl.Seg{s}, want, impl.OK)
		if _, code := impl.BitMatch(row(want), []impl.Seg{s}); code != impl.OK {
			t.Error(what, code)
		}
	}
	// A width may be more than any row has: the segment is one, but bits lack.
	wide := bins("a", 32000, 256)
	built(t, "wide", []impl.Seg{wide}, "", impl.ErrArg)
	matched(t, "wide", ones(32000), []impl.Seg{wide}, impl.ErrMatch)
}

func TestHowManySegs(t *testing.T) {
	one := ints(1, 1)
	built(t, "200", someSegs(one, 200), strings.Repeat("1", 200), impl.OK)
	built(t, "201", someSegs(one, 201), "", impl.ErrBad)
	built(t, "201 of nothing", someSegs(ints(1, 0), 201), "", impl.ErrBad)
	terms, code := impl.BitMatch(ones(200), someSegs(one, 200))
	if code != impl.OK || !sameRow(terms, many(num(1), 200).Kids) {
		t.Error(terms, code)
	}
	matched(t, "201", ones(201), someSegs(one, 201), impl.ErrBad)
	matched(t, "201 of nothing", row(""), someSegs(ints(1, 0), 201), impl.ErrBad)
}

func TestAllThatThereIsOnlyAtTheEnd(t *testing.T) {
	rest := bins("ab", -1, 8)
	for _, segs := range [][]impl.Seg{{rest, rest}, {rest, ints(1, 0)}, {ints(1, 0), rest, bins("", 0, 1)}, {rest, ints(1, 1), rest}} {
		matched(t, "not the last", row(""), segs, impl.ErrBad)
		matched(t, "not the last", ones(32), segs, impl.ErrBad)
		if _, code := impl.BitBuild(segs); code != impl.OK {
			t.Error("BitBuild takes it anywhere", code)
		}
	}
	matched(t, "the only one", ones(8), []impl.Seg{rest}, impl.OK, bin("\xff"))
	matched(t, "a row that is none, ahead of it", impl.Bits{Len: 1}, []impl.Seg{ints(1, 1), rest}, impl.ErrBad)
}

func TestBuildOfWrongV(t *testing.T) {
	for what, w := range wrongTerms() {
		s := impl.Seg{Type: impl.SgInt, Size: 1, Unit: 1, V: w}
		built(t, what, []impl.Seg{s}, "", impl.ErrBad)
		s.Type = impl.SgBin
		built(t, what, []impl.Seg{ints(1, 1), s}, "", impl.ErrBad)
		built(t, what, []impl.Seg{{Type: impl.SgInt, Size: 1, Unit: 1, V: atom("a")}, s}, "", impl.ErrBad)
	}
	for _, v := range ladder() {
		for _, size := range []int{0, 1} {
			if s := (impl.Seg{Type: impl.SgInt, Size: size, Unit: 1, V: v}); v.Kind != impl.TmInt {
				built(t, "no Int", []impl.Seg{s}, "", impl.ErrArg)
			}
			if s := (impl.Seg{Type: impl.SgBin, Size: -size, Unit: 1, V: v}); v.Kind != impl.TmBin {
				built(t, "no Bin", []impl.Seg{s}, "", impl.ErrArg)
			}
		}
	}
}

func TestBuildOfShortBins(t *testing.T) {
	for _, x := range []struct {
		s          string
		size, unit int
		code       int
	}{
		{"", 1, 1, impl.ErrArg}, {"", 0, 1, impl.OK}, {"a", 8, 1, impl.OK}, {"a", 9, 1, impl.ErrArg}, {"a", 1, 8, impl.OK}, {"a", 1, 9, impl.ErrArg},
		{"ab", 2, 8, impl.OK}, {"ab", 3, 8, impl.ErrArg}, {"ab", 2, 9, impl.ErrArg}, {"a", 1, 256, impl.ErrArg}, {"a", 32000, 256, impl.ErrArg},
		{"a", -1, 1, impl.OK}, {"a", -1, 2, impl.OK}, {"a", -1, 3, impl.ErrArg}, {"a", -1, 8, impl.OK}, {"a", -1, 9, impl.ErrArg}, {"a", -1, 16, impl.ErrArg},
		{"abc", -1, 3, impl.OK}, {"abc", -1, 16, impl.ErrArg}, {"", -1, 256, impl.OK}, {"a", -1, 256, impl.ErrArg},
	} {
		segs := []impl.Seg{bins(x.s, x.size, x.unit)}
		want, _ := buildByWords(segs)
		built(t, x.s, segs, want, x.code)
	}
}

// The first fault of the segments in order is told, be it ErrArg or ErrFull.
func TestBuildsFirstFault(t *testing.T) {
	whole := bins(strings.Repeat("\xaa", 4000), -1, 8)
	short := bins("", 1, 1)
	bit := ints(1, 1)
	built(t, "full", []impl.Seg{whole}, strings.Repeat("10", 16000), impl.OK)
	built(t, "full, and nothing more", []impl.Seg{ints(1, 0), whole, ints(1, 0), bins("", -1, 1)}, strings.Repeat("10", 16000), impl.OK)
	built(t, "one bit too many behind", []impl.Seg{whole, bit}, "", impl.ErrFull)
	built(t, "one bit too many ahead", []impl.Seg{bit, whole}, "", impl.ErrFull)
	built(t, "too many, then a short one", []impl.Seg{whole, bit, short}, "", impl.ErrFull)
	built(t, "a short one, then too many", []impl.Seg{whole, short, bit}, "", impl.ErrArg)
	built(t, "a short one that would be too many", []impl.Seg{whole, bins("a", 9, 1)}, "", impl.ErrArg)
	built(t, "none at the end", []impl.Seg{whole, bit, short, ints(1, 50)}, "", impl.ErrBad)
	built(t, "200 whole ones", someSegs(whole, 200), "", impl.ErrFull)
	most := append(someSegs(bins(strings.Repeat("\xff", 4000), 31999, 1), 1), bit)
	built(t, "32000 of two", most, strings.Repeat("1", 32000), impl.OK)
	built(t, "32001 of three", append(most, bit), "", impl.ErrFull)
}

// anySeg is a segment that is one, with a V that has the bits.
func anySeg(r *rand.Rand) impl.Seg {
	if r.Intn(2) == 0 {
		width := r.Intn(50)
		n := 1 + r.Intn(max(width, 1))
		s := unit(ints(r.Intn(2*impl.MaxInt+1)-impl.MaxInt, width/n), n)
		s.Signed, s.Little = r.Intn(2) == 0, r.Intn(2) == 0
		return s
	}
	s := bins(row(anyDigits(r, 8*r.Intn(40))).Bytes, 0, []int{1, 2, 3, 7, 8, 9, 16, 255, 256}[r.Intn(9)])
	s.Size = r.Intn(8*len(s.V.S)/s.Unit + 1)
	return s
}

func anySegs(r *rand.Rand) []impl.Seg {
	var segs []impl.Seg
	for range r.Intn(8) {
		segs = append(segs, anySeg(r))
	}
	if r.Intn(2) == 0 {
		segs = append(segs, bins(row(anyDigits(r, 64*r.Intn(5))).Bytes, -1, []int{1, 2, 8, 64}[r.Intn(4)]))
	}
	return segs
}

// valueOf is what BitMatch has to give for a segment that was built.
func valueOf(s impl.Seg) impl.Term {
	if s.Type == impl.SgBin && s.Size == -1 {
		return s.V
	}
	width := s.Size * s.Unit
	if s.Type == impl.SgBin {
		return bin(row(digitsOfText(s.V.S)[:width]).Bytes)
	}
	n := s.V.N & (1<<width - 1)
	if s.Signed && width > 0 && n >= 1<<(width-1) {
		n -= 1 << width
	}
	return num(n)
}

// P3: what is built is taken apart into the values again.
func TestMatchOfBuiltP3(t *testing.T) {
	r := rand.New(rand.NewSource(7))
	for range 4000 {
		segs := anySegs(r)
		b, code := impl.BitBuild(segs)
		if code != impl.OK || !impl.BitsOK(b) {
			t.Fatal(segs, code)
		}
		var want []impl.Term
		for _, s := range segs {
			want = append(want, valueOf(s))
		}
		matched(t, "what was built", b, segs, impl.OK, want...)
		if t.Failed() {
			t.Fatal(segs)
		}
	}
}

func TestMatchOfBuiltAtItsLimitP3(t *testing.T) {
	segs := someSegs(little(ints(0x1234567, 49)), 199)
	segs = append(segs, bins(strings.Repeat("\xa5", 4000), 32000-199*49, 1))
	b, code := impl.BitBuild(segs)
	if b.Len != 32000 || code != impl.OK {
		t.Fatal(b.Len, code)
	}
	var want []impl.Term
	for _, s := range segs {
		want = append(want, valueOf(s))
	}
	matched(t, "32000 bits", b, segs, impl.OK, want...)
}

// spoiltSegs is segments of which some are none, or have another V than they want.
func spoiltSegs(r *rand.Rand) []impl.Seg {
	segs := anySegs(r)
	for range r.Intn(3) {
		if len(segs) == 0 {
			break
		}
		s := &segs[r.Intn(len(segs))]
		switch r.Intn(7) {
		case 0:
			s.Type = r.Intn(4)
		case 1:
			s.Size = []int{-2, -1, 0, 1, 7, 8, 25, 49, 50, 3999, 4000, 32000, 32001}[r.Intn(13)]
		case 2:
			s.Unit = []int{-1, 0, 1, 2, 7, 8, 49, 50, 256, 257}[r.Intn(10)]
		case 3:
			s.Little = !s.Little
		case 4:
			s.Signed = !s.Signed
		case 5:
			s.V = anyTerm(r, 2)
		case 6:
			s.V = bin(strings.Repeat("\x5a", []int{0, 1, 3999, 4000, 4001}[r.Intn(5)]))
		}
	}
	return segs
}

// Both held against a second reading of the document, on right and spoilt segments.
func TestSegmentsHeldAgainstWordsP3(t *testing.T) {
	r := rand.New(rand.NewSource(8))
	codes := map[int]int{}
	for range 8000 {
		segs := spoiltSegs(r)
		want, wantCode := buildByWords(segs)
		built(t, "built", segs, want, wantCode)
		b := row(want)
		if r.Intn(3) == 0 {
			b = row(anyDigits(r, r.Intn(200)))
		}
		terms, matchCode := matchByWords(b, segs)
		matched(t, "matched", b, segs, matchCode, terms...)
		if t.Failed() {
			t.Fatal(segs)
		}
		codes[wantCode]++
		codes[matchCode]++
	}
	for _, code := range []int{impl.OK, impl.ErrBad, impl.ErrArg, impl.ErrFull, impl.ErrMatch} {
		if codes[code] < 20 {
			t.Error("hardly any of code", code, codes[code])
		}
	}
}

// Neither the segments nor the room behind them is written into, and answers are new memory.
func TestSegmentsStay(t *testing.T) {
	r := rand.New(rand.NewSource(9))
	for range 200 {
		segs := anySegs(r)
		room := append(slices.Clone(segs), ints(77, 7), bins("room", -1, 8))
		given := room[:len(segs)]
		b, _ := impl.BitBuild(given)
		terms, _ := impl.BitMatch(b, given)
		for i := range terms {
			terms[i] = atom("spoilt")
		}
		again, code := impl.BitMatch(b, given)
		if code != impl.OK || slices.ContainsFunc(again, func(x impl.Term) bool { return x.Kind == impl.TmAtom }) {
			t.Fatal(again, code)
		}
		for i, s := range append(slices.Clone(segs), ints(77, 7), bins("room", -1, 8)) {
			v := s.V
			if g := room[i]; g.Type != s.Type || g.Size != s.Size || g.Unit != s.Unit || g.Signed != s.Signed || g.Little != s.Little || !same(g.V, v) {
				t.Fatal(i, g)
			}
		}
	}
}
