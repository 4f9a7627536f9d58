package tests

import (
	"math"
	"slices"
	"strings"
	"testing"

	"loop.example/g00019/impl"
)

// pieces is a number in pieces of seven bits.
func pieces(n int) string {
	if n < 128 {
		return string([]byte{byte(n)})
	}
	return string([]byte{byte(n%128) + 128}) + pieces(n/128)
}

func sized(s string) string { return pieces(len(s)) + s }

// sumOf is the number at the end of an image.
func sumOf(s string) string {
	h := uint64(5381)
	for i := range len(s) {
		h = (h*33 + uint64(s[i])) % (1 << 32)
	}
	return high(h, 4)
}

// imageOf is an image of parts, whatever stands in them.
func imageOf(texts, terms, functions, refers, ins string) string {
	s := "SK\x01T" + sized(texts) + "L" + sized(terms) + "F" + sized(functions) + "R" + sized(refers) + "I" + sized(ins)
	return s + sumOf(s)
}

// rowOf is texts, how many they are ahead, and of each its length.
func rowOf(texts ...string) string {
	s := pieces(len(texts))
	for _, one := range texts {
		s += sized(one)
	}
	return s
}

// imageByWords is the bytes of code, however many they are.
func imageByWords(code impl.Code) string {
	texts := []string{code.Name}
	var terms []string
	for _, f := range code.Fns {
		if f.Name != "" {
			texts = append(texts, f.Name)
		}
	}
	for _, r := range code.Refers {
		texts = append(texts, r.Name)
	}
	for _, n := range code.Ins {
		if strings.Contains(opRows[n.Op].fields, "S") {
			texts = append(texts, n.S)
		}
		if strings.Contains(opRows[n.Op].fields, "V") {
			terms = append(terms, packedTerm(n.V))
		}
	}
	texts, terms = firsts(texts), firsts(terms)
	text := func(s string) string { return pieces(slices.Index(texts, s)) }
	functions := text(code.Name) + pieces(len(code.Fns))
	ahead := 0
	for _, f := range code.Fns {
		name := pieces(0)
		if f.Name != "" {
			name = pieces(1 + slices.Index(texts, f.Name))
		}
		functions += name + pieces(f.Arity) + pieces(f.At-ahead) + pieces(f.Slots) + pieces(f.Node) + pieces(f.Held) + map[bool]string{false: "\x00", true: "\x01"}[f.Export]
		ahead = f.At
	}
	refers := pieces(len(code.Refers))
	for _, r := range code.Refers {
		refers += pieces(r.Node) + text(r.Name) + pieces(r.Arity)
	}
	ins := pieces(len(code.Ins))
	for _, n := range code.Ins {
		ins += pieces(n.Op)
		for _, f := range opRows[n.Op].fields {
			switch f {
			case 'S':
				ins += text(n.S)
			case 'V':
				ins += pieces(slices.Index(terms, packedTerm(n.V)))
			default:
				ins += pieces(map[rune]int{'A': n.A, 'B': n.B, 'C': n.C}[f])
			}
		}
	}
	return imageOf(rowOf(texts...), rowOf(terms...), functions, refers, ins)
}

func packedTerm(t impl.Term) string {
	s, code := impl.TermPack(t)
	if code != impl.OK {
		panic("no TermPack")
	}
	return s
}

// firsts is texts, each one where it is first.
func firsts(texts []string) []string {
	var row []string
	for _, s := range texts {
		if !slices.Contains(row, s) {
			row = append(row, s)
		}
	}
	return row
}

// packs asks for the bytes of code, and that they are read as it.
func packs(t *testing.T, code impl.Code, want string) {
	t.Helper()
	s, wrong := impl.CodePack(code)
	if s != want || wrong != impl.OK {
		t.Fatalf("CodePack: code %d\n%q, not\n%q\nof %s", wrong, s, want, listing(code))
	}
	back, wrong := impl.CodeLoad(s)
	if wrong != impl.OK || !sameCode(back, code) {
		t.Fatalf("CodeLoad: code %d, at %s", wrong, unlike(back, code))
	}
	if again, wrong := impl.CodePack(back); again != s || wrong != impl.OK {
		t.Fatalf("CodePack of what was loaded: code %d\n%q, not\n%q", wrong, again, s)
	}
}

// noImage asks that CodeLoad refuses bytes.
func noImage(t *testing.T, what string, s string) {
	t.Helper()
	if code, wrong := impl.CodeLoad(s); wrong != impl.ErrForm || !zeroCode(code) {
		t.Errorf("CodeLoad of %s: code %d\n%q\n%s", what, wrong, s, listing(code))
	}
}

// smallCode is code with something in each table.
func smallCode() impl.Code {
	code := codeOf("f/0 0: Push a; Push a; Operate ==; Return\nfun/1 200 1: Is x 0 300; Fail 0 f; x: Fail 0 m")
	code.Fns[0].Export = true
	code.Fns[1].Node = 130
	code.Refers = []impl.CodeRef{{Node: 300, Name: "f"}}
	return code
}

// Its parts, written out by hand.
const (
	smallTexts = "\x03\x01m\x01f\x02=="
	smallTerms = "\x02\x04\x83w\x01a\x0a\x83b\x00\x00\x00\x00\x00\x00\x01\x2c"
	smallFns   = "\x00\x02\x02\x00\x00\x00\x00\x00\x01\x00\x01\x04\xc8\x01\x82\x01\x01\x00"
	smallRefs  = "\x01\xac\x02\x01\x00"
	smallIns   = "\x07\x02\x00\x02\x00\x1d\x02\x25\x0a\x06\x00\x01\x26\x00\x01\x26\x00\x00"
)

func TestBytesOfSmallCodeP9(t *testing.T) {
	s := "SK\x01T\x08" + smallTexts + "L\x11" + smallTerms + "F\x12" + smallFns + "R\x05" + smallRefs + "I\x12" + smallIns
	packs(t, smallCode(), s+sumOf(s))
	packs(t, impl.Code{Name: "m"}, "SK\x01T\x03\x01\x01mL\x01\x00F\x02\x00\x00R\x01\x00I\x01\x00"+sumOf("SK\x01T\x03\x01\x01mL\x01\x00F\x02\x00\x00R\x01\x00I\x01\x00"))
	same := codeOf("m/0 0: Fail 0 m\nm/1 0: Fail 0 b") // texts that are met in more than one table
	same.Refers = []impl.CodeRef{{Node: 2, Name: "b"}, {Node: 3, Name: "m"}}
	packs(t, same, imageOf("\x02\x01m\x01b", "\x00", "\x00\x02\x01\x00\x00\x00\x00\x00\x00\x01\x01\x01\x00\x01\x00\x00", "\x02\x02\x01\x00\x03\x00\x00", "\x02\x26\x00\x00\x26\x00\x01"))
	if imageOf(smallTexts, smallTerms, smallFns, smallRefs, smallIns) != s+sumOf(s) || imageByWords(smallCode()) != s+sumOf(s) {
		t.Error("helpers")
	}
	if pieces(127)+pieces(128)+pieces(16383)+pieces(16384)+pieces(300) != "\x7f\x80\x01\xff\x7f\x80\x80\x01\xac\x02" {
		t.Error("pieces")
	}
}

// P9: numbers of one piece, of two and of three.
func TestNumbersInPiecesP9(t *testing.T) {
	for _, n := range []int{1, 127, 128, 129, 255, 256, 16383, 16384, 16385, 100000} {
		code := codeOf("f/0 0: Step 1; Fail 0 a")
		code.Ins[0].A = n
		packs(t, code, imageByWords(code))
	}
	for _, n := range []int{0, 127, 128, 1999} {
		code := codeOf("f/0 0: Fail 0 a\nfun/0 0: Fail 0 a")
		code.Fns[0].Arity, code.Fns[0].Slots = n, n
		code.Fns[1].Slots, code.Fns[1].Held = n, n
		if n > 0 {
			code.Fns[1].Node = n
		}
		packs(t, code, imageByWords(code))
	}
	for _, n := range []int{127, 128, 129, 16384, 19990} { // how many instructions, and blocks far from one another
		code := codeOf("f/0 0: " + strings.Repeat("Taken;", n) + "Fail 0 a\ng/0 0: Fail 0 a")
		packs(t, code, imageByWords(code))
	}
	text := ""
	for i := range 300 { // more texts and terms than one piece numbers
		text += "Push " + shownTerm(tuple(num(i))) + "; Drop; Remote 0 a:a" + strings.Repeat("b", i%29) + string(rune('a'+i/29)) + "; Drop;"
	}
	code := codeOf("f/0 0:" + text + "Fail 0 a")
	packs(t, code, imageByWords(code))
}

// P9: what modules become is packed as the words say, loaded, and packed again.
func TestBytesOfCompiledCodeP9(t *testing.T) {
	t.Parallel()
	r := newChance(24)
	for _, m := range spokenModules(t, 600) {
		code := compiled(t, flat(m))
		s := imageByWords(code)
		packs(t, code, s)
		for range 10 {
			onlyImages(t, anyChange(r, s))
			onlyImages(t, summed(anyChange(r, s[:len(s)-4])))
		}
	}
}

// anyChange is a text with one byte changed, left out or put in, or two texts in another order.
func anyChange(r chance, s string) string {
	i, k := r.Intn(len(s)), r.Intn(len(s))
	switch r.Intn(5) {
	case 0:
		return s[:i] + string([]byte{byte(r.Intn(256))}) + s[i+1:]
	case 1:
		return s[:i] + string([]byte{s[i] ^ 1<<r.Intn(8)}) + s[i+1:]
	case 2:
		return s[:i] + s[i+1:]
	case 3:
		return s[:i] + string([]byte{s[k]}) + s[i:]
	}
	return s[:i] + s[k:]
}

func summed(s string) string { return s + sumOf(s) }

// onlyImages asks that CodeLoad takes nothing but what CodePack writes.
func onlyImages(t *testing.T, s string) bool {
	t.Helper()
	code, wrong := impl.CodeLoad(s)
	if wrong != impl.OK {
		if wrong != impl.ErrForm || !zeroCode(code) {
			t.Errorf("CodeLoad of %q: code %d", s, wrong)
		}
		return false
	}
	if w, at := verifyByWords(code); w != impl.OK {
		t.Errorf("CodeLoad of %q is not sound at %d", s, at)
	}
	if imageByWords(code) != s {
		t.Errorf("CodeLoad takes %q", s)
	}
	return true
}

// P9: each byte of an image changed to each other one, with the sum that was there and with a right one; images cut off and gone on with.
func TestChangedImagesP9(t *testing.T) {
	t.Parallel()
	codes := []impl.Code{smallCode(), compiled(t, meant(t, "f([X | Y]) when X > 1 -> <<Y:4>>; f(_) -> fun() -> fun f/1 end.")), {Name: "m"}}
	taken := 0
	for _, code := range codes {
		s := imageByWords(code)
		packs(t, code, s)
		body := s[:len(s)-4]
		for i := range len(s) {
			for b := range 256 {
				if byte(b) == s[i] {
					continue
				}
				noImage(t, "a byte changed", s[:i]+string([]byte{byte(b)})+s[i+1:])
				if i < len(body) && onlyImages(t, summed(body[:i]+string([]byte{byte(b)})+body[i+1:])) {
					taken++
				}
			}
			noImage(t, "the begin alone", s[:i])
			if onlyImages(t, summed(body[:min(i, len(body))])) && i < len(body) {
				t.Error("half an image is taken")
			}
		}
		for b := range 256 {
			noImage(t, "one byte more", s+string([]byte{byte(b)}))
			noImage(t, "one byte more ahead", string([]byte{byte(b)})+s)
			noImage(t, "one byte more ahead of the sum", summed(body+string([]byte{byte(b)})))
		}
		noImage(t, "twice", s+s)
	}
	if taken < 100 { // another number or letter is another code
		t.Error("too few other codes", taken)
	}
	t.Log(taken)
}

// P9: images with a right sum that CodePack does not write.
func TestWrongImagesP9(t *testing.T) {
	small := []string{smallTexts, smallTerms, smallFns, smallRefs, smallIns}
	with := func(what string, part int, s string) {
		t.Helper()
		row := slices.Clone(small)
		if row[part] == s {
			t.Error("nothing changed", what)
		}
		row[part] = s
		noImage(t, what, imageOf(row[0], row[1], row[2], row[3], row[4]))
	}
	a, big := "\x83w\x01a", packedTerm(num(300))
	with("a text twice", 0, rowOf("m", "f", "==", "f"))
	with("a text twice, both named", 0, rowOf("m", "m", "=="))
	with("a text that nothing names", 0, rowOf("m", "f", "==", "x"))
	with("a text too few", 0, rowOf("m", "f"))
	with("an empty text", 0, rowOf("m", "f", "==", ""))
	with("no texts", 0, rowOf())
	with("a term twice", 1, rowOf(a, big, a))
	with("a term that nothing names", 1, rowOf(a, big, packedTerm(num(1))))
	with("a term too few", 1, rowOf(a))
	with("a term that is no term", 1, rowOf(a, "\x83w\x01A"))
	with("a term that is packed otherwise", 1, rowOf(a, "\x83b\x00\x00\x00\x00\x00\x00\x00\x07"))
	with("a term with a byte more", 1, rowOf(a+"a", big))
	with("an empty term", 1, rowOf(a, ""))
	// Out of order: what is named is the same, but numbered otherwise.
	noImage(t, "texts out of order", imageOf(rowOf("f", "m", "=="), smallTerms, "\x01\x02\x01"+smallFns[3:], "\x01\xac\x02\x00\x00", "\x07\x02\x00\x02\x00\x1d\x02\x25\x0a\x06\x00\x01\x26\x00\x00\x26\x00\x01"))
	noImage(t, "terms out of order", imageOf(smallTexts, rowOf(big, a), smallFns, smallRefs, "\x07\x02\x01\x02\x01\x1d\x02\x25\x0a\x06\x00\x00\x26\x00\x01\x26\x00\x00"))
	with("a number in two pieces that needs one", 2, "\x80\x00"+smallFns[1:])
	with("a number in three pieces that needs two", 3, "\x01\xac\x82\x00\x01\x00")
	with("a number of ten pieces", 3, "\x01"+strings.Repeat("\x80", 9)+"\x01\x01\x00")
	with("a number without its last piece", 4, smallIns[:len(smallIns)-1]+"\x80")
	with("how many instructions in two pieces", 4, "\x87\x00"+smallIns[1:])
	with("how many texts in two pieces", 0, "\x83\x00"+smallTexts[1:])
	for part, what := range []string{"texts", "terms", "functions", "refers", "instructions"} {
		with("a byte left over in "+what, part, small[part]+"\x00")
		with("a byte too few in "+what, part, small[part][:len(small[part])-1])
		with("nothing in "+what, part, "")
		with("one more of "+what, part, string([]byte{small[part][0] + 1})+small[part][1:])
		with("very many of "+what, part, strings.Repeat("\xff", 8)+"\x7f"+small[part][1:])
	}
	with("very many functions", 2, "\x00"+strings.Repeat("\xff", 8)+"\x7f")
	with("export 2", 2, smallFns[:8]+"\x02"+smallFns[9:])
	with("an export of a fun", 2, smallFns[:len(smallFns)-1]+"\x01")
	with("a name that is none", 2, "\x03"+smallFns[1:])
	with("a block at a great place", 2, smallFns[:11]+strings.Repeat("\xff", 8)+"\x7f"+smallFns[12:])
	with("an operation that is none", 4, "\x07\x02\x00\x02\x00\x1d\x02\x36\x0a\x06\x00\x01\x26\x00\x01\x26\x00\x00")
	with("operation 0", 4, "\x07\x02\x00\x02\x00\x1d\x02\x00\x0a\x06\x00\x01\x26\x00\x01\x26\x00\x00")
	with("a great operation", 4, "\x01"+strings.Repeat("\xff", 8)+"\x7f")
	with("code that is not sound", 4, "\x07\x02\x00\x02\x00\x1d\x02\x25\x0a\x04\x00\x01\x26\x00\x01\x26\x00\x00")
	with("a name that is reserved", 0, rowOf("of", "f", "=="))
	whole := imageOf(smallTexts, smallTerms, smallFns, smallRefs, smallIns)
	body := whole[:len(whole)-4]
	for what, s := range map[string]string{
		"another version": "SK\x02" + body[3:], "another begin": "sK\x01" + body[3:], "no begin": body[3:], "a small letter": "SK\x01t" + body[4:],
		"parts in another order": "SK\x01L\x11" + smallTerms + "T\x08" + smallTexts + body[3+10+19:],
		"a part twice":           body + "I\x12" + smallIns,
		"no last part":           body[:len(body)-20],
	} {
		noImage(t, what, summed(s))
	}
	if !onlyImages(t, summed(body)) {
		t.Error("not the one that is right")
	}
	for _, s := range []string{"", "S", "SK", "SK\x01", "SK\x01\x00\x00\x00\x00", summed("SK\x01"), summed("")} {
		noImage(t, "hardly anything", s)
	}
	turned := []byte(whole)
	slices.Reverse(turned[len(turned)-4:])
	noImage(t, "the sum the other way round", string(turned))
	noImage(t, "no sum", body)
}

// fullCode is code whose image has so many bytes.
func fullCode(t *testing.T, size int) impl.Code {
	t.Helper()
	made := func(last int) impl.Code {
		code := codeOf("f/0 0: " + strings.Repeat("Push 1; Drop;", 51) + "Fail 0 a")
		for i := range 51 {
			n := 3950
			if i == 50 {
				n = last
			}
			code.Ins[2*i].V = bin(string([]byte{byte(i)}) + strings.Repeat("a", n))
		}
		return code
	}
	code := made(2000)
	code = made(2000 + size - len(imageByWords(code)))
	if len(imageByWords(code)) != size {
		t.Fatal("not so many bytes", len(imageByWords(code)))
	}
	return code
}

func TestCodeOfManyBytesP9(t *testing.T) {
	code := fullCode(t, 200000)
	packs(t, code, imageByWords(code))
	for _, n := range []int{200001, 200500} {
		code := fullCode(t, n)
		looked(t, "long code", code, impl.OK, 0)
		if s, wrong := impl.CodePack(code); s != "" || wrong != impl.ErrFull {
			t.Error(n, len(s), wrong)
		}
		noImage(t, "too many bytes", imageByWords(code))
	}
	// More than that in one part alone.
	for range 6 {
		code.Ins = append([]impl.Ins{{Op: impl.OpPush, V: many(bin(strings.Repeat("b", 3000+len(code.Ins))), 13)}, {Op: impl.OpDrop}}, code.Ins...)
	}
	if s, wrong := impl.CodePack(code); s != "" || wrong != impl.ErrFull {
		t.Error(len(s), wrong)
	}
	// Instructions alone.
	long := codeOf("f/0 0: Fail 0 a")
	for len(long.Ins) < 20000 {
		long.Ins = append(long.Ins, impl.Ins{Op: impl.OpPush, V: list()})
	}
	packs(t, long, imageByWords(long))
}

// P9: terms that have no TermPack.
func TestCodeOfLongTermsP9(t *testing.T) {
	fits, passes := many(bin(strings.Repeat("a", 3995)), 10), many(bin(strings.Repeat("a", 3999)), 10)
	for _, text := range []string{"f/0 0: Push 1; Return", "f/0 0: Fail 0 a; Push 1", "f/1 0: Is 2 0 1; Fail 0 a; Fail 0 b", "f/1 0: Get 2 0 1; Fail 0 a; Fail 0 b"} {
		for _, v := range []impl.Term{fits, passes} {
			code := codeOf(text)
			at := slices.IndexFunc(code.Ins, func(n impl.Ins) bool { return n.V.Kind != 0 })
			code.Ins[at].V = v
			looked(t, text, code, impl.OK, 0)
			if _, bad := impl.TermPack(v); bad == impl.OK {
				packs(t, code, imageByWords(code))
			} else if s, wrong := impl.CodePack(code); s != "" || wrong != impl.ErrFull {
				t.Error(text, len(s), wrong)
			}
		}
	}
	if _, bad := impl.TermPack(fits); bad != impl.OK {
		t.Error("fits", bad)
	}
	if _, bad := impl.TermPack(passes); bad != impl.ErrFull {
		t.Error("passes", bad)
	}
}

// P9: what is not sound has no bytes, even when it is too long, too.
func TestBytesOfUnsoundCodeP9(t *testing.T) {
	bad := func(code impl.Code) {
		t.Helper()
		if s, wrong := impl.CodePack(code); s != "" || wrong != impl.ErrBad {
			t.Error(wrong, s)
		}
	}
	bad(impl.Code{})
	bad(codeOf("f/0 0: Return"))
	bad(codeOf("f/0 0: Fail 0 a; Load 0"))
	code := smallCode()
	code.Name = "of"
	bad(code)
	code = smallCode()
	code.Ins[0].V = atom("A")
	bad(code)
	code = smallCode()
	code.Ins[0].B = 1
	bad(code)
	code = fullCode(t, 200001)
	code.Ins[len(code.Ins)-1].S = "of"
	bad(code)
	for _, op := range []int{-1, 0, 54, math.MaxInt, math.MinInt} {
		code = smallCode()
		code.Ins[1].Op = op
		bad(code)
	}
}

// Answers are new memory, and arguments are left as they are.
func TestMemoryOfCode(t *testing.T) {
	code := codeOf("f/0 0: Push {a, [1, b]}; Push {a, [1, b]}; Operate ==; Return")
	code.Refers = []impl.CodeRef{{Node: 7, Name: "hd", Arity: 1}}
	fns := append(make([]impl.CodeFn, 0, 4), code.Fns...)
	ins := append(make([]impl.Ins, 0, 9), code.Ins...)
	code.Fns, code.Ins = fns, ins
	before := copiedCode(code)
	s, _ := impl.CodePack(code)
	one, _ := impl.CodeLoad(s)
	other, _ := impl.CodeLoad(s)
	if !sameCode(code, before) || fns[:2][1] != (impl.CodeFn{}) || !sameIns(ins[:5][4], impl.Ins{}) {
		t.Error("changed")
	}
	one.Ins[0].V.Kids[1].Kids[0] = num(9)
	if !sameCode(other, code) || !same(one.Ins[1].V, code.Ins[1].V) {
		t.Error("shared")
	}
	one.Fns[0].Name, one.Refers[0].Name, one.Ins[3].Op = "z", "z", 1
	if !sameCode(other, code) {
		t.Error("shared")
	}
}
