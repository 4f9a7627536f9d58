package tests

import (
	"slices"
	"strings"
	"testing"

	"loop.example/g00019/impl"
)

const ahead = "module m. f() -> "

// read asks for the tree of one expression's text.
func read(t *testing.T, text string, want nd) {
	t.Helper()
	if tree := parsed(t, ahead+text+"."); !sameTree(tree, flat(moduleOf(want))) {
		t.Errorf("%s\nis read as %v", text, tree)
	}
}

func TestParseOfLooseTextsP4(t *testing.T) {
	a, b, c, x, y, one, two := nAtom("a"), nAtom("b"), nAtom("c"), nVar("X"), nVar("Y"), nInt(1), nInt(2)
	seg := func(value nd) nd { return nSeg("int", 0, value, nNone()) }
	for _, e := range []struct {
		text string
		want nd
	}{
		{"0", nInt(0)}, {"(((1)))", one}, {"-1", nUn("-", one)}, {"- -1", nUn("-", nUn("-", one))}, {"--1", nUn("-", nUn("-", one))}, {"not not a", nUn("not", nUn("not", a))}, {"-not-a", nUn("-", nUn("not", nUn("-", a)))},
		{"1-1", nOp("-", one, one)}, {"1--1", nOp("-", one, nUn("-", one))}, {"-1-1", nOp("-", nUn("-", one), one)}, {"1+-1", nOp("+", one, nUn("-", one))}, {"not a==b", nOp("==", nUn("not", a), b)}, {"-a(b)", nUn("-", nCall("a", b))}, {"(-a)(b)", nApply(nUn("-", a), b)},
		{"a(b)", nCall("a", b)}, {"a (b)", nCall("a", b)}, {"a%\n(b)", nCall("a", b)}, {"(a)(b)", nApply(a, b)}, {"a()(b)", nApply(nCall("a"), b)}, {"a()()()", nApply(nApply(nCall("a")))}, {"((a)(b))(c)", nApply(nApply(a, b), c)},
		{"a:b(c)", nRemote("a:b", c)}, {"a : b (c)(1)", nApply(nRemote("a:b", c), one)}, {"X(1,2)", nApply(x, one, two)}, {"1()", nApply(one)}, {`"a"(1)`, nApply(nStr("a"), one)}, {"[](1)", nApply(nList(0), one)}, {"fun a/1(2)", nApply(nRefer("a", 1), two)}, {"fun()->1 end(2)", nApply(nFun(nPlain(one)), two)}, {"begin a end()", nApply(nBegin(nBody(a)))},
		{"{}", nTuple()}, {"{a,(b),{c}}", nTuple(a, b, nTuple(c))}, {"{a=b}", nTuple(nMatch(a, b))}, {"[a|b]", nList(1, a, b)}, {"[a,b|c]", nList(1, a, b, c)}, {"[[]|[]]", nList(1, nList(0), nList(0))}, {"[a=b|b!c]", nList(1, nMatch(a, b), nSend(b, c))},
		{"#{}", nMap(0)}, {"#{|X}", nMap(1, x)}, {"# {}", nd{}}, {"#{a=>b}", nMap(0, a, b)}, {"#{a=>b,c=>1|X}", nMap(1, a, b, c, one, x)}, {"#{1=2=>3=4}", nMap(0, nMatch(one, two), nMatch(nInt(3), nInt(4)))},
		{"<<>>", nBin()}, {"<<1>>", nBin(seg(one))}, {"<<(1)>>", nBin(seg(one))}, {"<<(a)>>", nBin(seg(a))}, {"<<(-1)>>", nBin(seg(nUn("-", one)))}, {"<<((X)):((1))>>", nBin(nSeg("int", 0, x, one))}, {`<<"a","b":1>>`, nBin(seg(nStr("a")), nSeg("int", 0, nStr("b"), one))},
		{"<<X/int>>", nBin(seg(x))}, {"<<X/int/signed>>", nBin(nSeg("int", 1, x, nNone()))}, {"<<X/signed/int>>", nBin(nSeg("int", 1, x, nNone()))}, {"<<X/little/int/signed>>", nBin(nSeg("int", 3, x, nNone()))}, {"<<X/signed/little>>", nBin(nSeg("int", 3, x, nNone()))}, {"<<X:1/little>>", nBin(nSeg("int", 2, x, one))},
		{"<<X/binary>>", nBin(nSeg("binary", 0, x, nNone()))}, {"<<X/binary/bits>>", nBin(nSeg("binary", 4, x, nNone()))}, {"<<X/bits/binary>>", nBin(nSeg("binary", 4, x, nNone()))}, {"<<X : Y / bits / binary , 1>>", nBin(nSeg("binary", 4, x, y), seg(one))},
		{"a=b=c", nMatch(a, nMatch(b, c))}, {"(a=b)=c", nMatch(nMatch(a, b), c)}, {"a!b!c", nSend(a, nSend(b, c))}, {"a=b!c=1", nMatch(a, nMatch(nSend(b, c), one))}, {"a++b++c", nOp("++", a, nOp("++", b, c))}, {"(a++b)++c", nOp("++", nOp("++", a, b), c)}, {"a orelse b orelse c", nOp("orelse", nOp("orelse", a, b), c)}, {"a andalso b andalso c", nOp("andalso", nOp("andalso", a, b), c)},
		{"1 div 2 rem 1*2 and a", nOp("and", nOp("*", nOp("rem", nOp("div", one, two), one), two), a)}, {"a or b-c+1", nOp("+", nOp("-", nOp("or", a, b), c), one)}, {"(1<2)<a", nOp("<", nOp("<", one, two), a)},
		{"fun(X)->X end", nFun(nPlain(x, x))}, {"fun (X)->X;(Y)when a,b->1,2 end", nFun(nPlain(x, x), nClause(y, nGuard(a, b), nBody(one, two)))}, {"fun a / 1", nRefer("a", 1)}, {"fun a/1000000000000000", nRefer("a", impl.MaxInt)},
		{"case(a)of b->c end", nCase(a, nPlain(c, b))}, {"case a of X when X->1;Y->case b of Y->2 end end", nCase(a, nClause(x, nGuard(x), nBody(one)), nPlain(nCase(b, nPlain(two, y)), y))}, {"case a of b=c->1 end", nCase(a, nPlain(one, nMatch(b, c)))},
		{"receive end", nReceive(0)}, {"receive X->X;Y->Y end", nReceive(0, nPlain(x, x), nPlain(y, y))}, {"receive after 1->a,b end", nReceive(1, one, nBody(a, b))}, {"receive X->X,Y after a=b->c end", nReceive(1, nClause(x, nGuard(), nBody(x, y)), nMatch(a, b), nBody(c))},
		{"try a,b catch error:X->X;Y:{}when a->1 end", nTry(0, nBody(a, b), nPlain(x, nAtom("error"), x), nClause(y, nTuple(), nGuard(a), nBody(one)))}, {"try a catch _:a:b()->c after 1,2 end", nTry(1, nBody(a), nPlain(c, nVar("_"), nRemote("a:b")), nBody(one, two))},
		{"begin begin a end,b end", nBegin(nBody(nBegin(nBody(a)), b))}, {"[X||X<-Y]", nComp(0, x, nGen(0, x, y))}, {"[X||X<-Y,X>1,a]", nComp(0, x, nGen(0, x, y), nOp(">", x, one), a)}, {"[a||b]", nComp(0, a, b)}, {"[[a||b]||X=Y<-Y=X]", nComp(0, nComp(0, a, b), nGen(0, nMatch(x, y), nMatch(y, x)))},
		{"<<X||<<X>><-Y>>", nComp(1, seg(x), nGen(1, nBin(seg(x)), y))}, {"<<X:1/bits/binary||a,X<-<<1>>>>", nComp(1, nSeg("binary", 4, x, one), a, nGen(1, x, nBin(seg(one))))}, {"<<(<<1>>)>>", nBin(seg(nBin(seg(one))))}, {"[<<X>>||<<X>><-Y]", nComp(0, nBin(seg(x)), nGen(0, nBin(seg(x)), y))},
		{"X<-1", nd{}}, {"X< -1", nOp("<", x, nUn("-", one))}, {"X=<1", nOp("=<", x, one)}, {"X<1", nOp("<", x, one)}, {"X/=1", nOp("/=", x, one)}, {"X=/=1", nOp("=/=", x, one)}, {"X=:=1", nOp("=:=", x, one)}, {"X>=1", nOp(">=", x, one)}, {"1=-1", nMatch(one, nUn("-", one))},
		{"int:binary(little,signed,bits)", nRemote("int:binary", nAtom("little"), nAtom("signed"), nAtom("bits"))},
	} {
		if e.want.kind != 0 {
			read(t, e.text, e.want)
		} else if _, code, _ := impl.Parse(ahead + e.text + "."); code != impl.ErrText {
			t.Error(e.text, code)
		}
	}
}

func TestParseOfFormsP4(t *testing.T) {
	x, one := nVar("X"), nInt(1)
	for text, want := range map[string]nd{
		"module m.":              nModule("m"),
		"\n % a module\nmodule%": nd{},
		"\n % a module\nmodule%\nm % m\n . % all":            nModule("m"),
		"module m.export f/1,g/0 , f/1.export h/2.":          nModule("m", nExport("f", 1), nExport("g", 0), nExport("f", 1), nExport("h", 2)),
		"module m.f()->1.f()->X.":                            nModule("m", nFunc("f", 0, nPlain(one)), nFunc("f", 0, nPlain(x))),
		"module m.f(X)->1;f(1)when X,1->X,1.g(X)->1.f()->X.": nModule("m", nFunc("f", 1, nPlain(one, x), nClause(one, nGuard(x, one), nBody(x, one))), nFunc("g", 1, nPlain(one, x)), nFunc("f", 0, nPlain(x))),
		"module m.f(X,X)->fun()->1 end;f(1,1)->1.":           nModule("m", nFunc("f", 2, nPlain(nFun(nPlain(one)), x, x), nPlain(one, one, one))),
		"module int. bits()->1.":                             nModule("int", nFunc("bits", 0, nPlain(one))),
	} {
		if tree, code, at := impl.Parse(text); want.kind != 0 && (code != impl.OK || at != 0 || !sameTree(tree, flat(want))) || want.kind == 0 && code != impl.ErrText {
			t.Error(text, tree, code, at)
		}
	}
}

// levels is how tightly an operator binds, and to which side it goes.
var levels = map[string]struct {
	tight int
	side  string
}{"=": {1, "right"}, "!": {2, "right"}, "orelse": {3, "left"}, "andalso": {4, "left"}, "==": {5, ""}, "/=": {5, ""}, "=:=": {5, ""}, "=/=": {5, ""}, "<": {5, ""}, "=<": {5, ""}, ">": {5, ""}, ">=": {5, ""},
	"++": {6, "right"}, "+": {7, "left"}, "-": {7, "left"}, "or": {7, "left"}, "*": {8, "left"}, "div": {8, "left"}, "rem": {8, "left"}, "and": {8, "left"}}

// chained is what operators between expressions make: the loosest one is the outermost.
func chained(es []nd, ops []string) nd {
	if len(ops) == 0 {
		return es[0]
	}
	at := 0
	for i, op := range ops {
		l := levels[op]
		if loosest := levels[ops[at]].tight; l.tight < loosest || l.tight == loosest && l.side == "left" {
			at = i
		}
	}
	left, right := chained(es[:at+1], ops[:at]), chained(es[at+1:], ops[at+1:])
	switch ops[at] {
	case "=":
		return nMatch(left, right)
	case "!":
		return nSend(left, right)
	}
	return nOp(ops[at], left, right)
}

// secondCompare is the number of the first operator that compares what one compares already, or -1.
func secondCompare(ops []string) int {
	compared := false
	for i, op := range ops {
		switch tight := levels[op].tight; {
		case tight < 5:
			compared = false
		case tight == 5 && compared:
			return i
		case tight == 5:
			compared = true
		}
	}
	return -1
}

func TestOperatorsInRowsP4(t *testing.T) {
	all := append([]string{"=", "!"}, operators...)
	var rows [][]string
	for _, a := range all {
		for _, b := range all {
			rows = append(rows, []string{a, b})
			for _, c := range all {
				rows = append(rows, []string{a, b, c})
			}
		}
	}
	r := newChance(9)
	for range 5000 {
		var row []string
		for range 4 + r.Intn(5) {
			row = append(row, r.of(all...))
		}
		rows = append(rows, row)
	}
	es := []nd{nAtom("a"), nVar("B"), nUn("-", nInt(1)), nUn("not", nAtom("d")), nCall("e", nInt(2)), nTuple(), nStr("g"), nInt(7), nAtom("i")}
	texts := []string{"a", "B", "-1", "not d", "e(2)", "{}", `"g"`, "7", "i"}
	for _, ops := range rows {
		text := ahead + texts[0]
		fault, second := 0, secondCompare(ops)
		for i, op := range ops {
			if i == second {
				fault = len(text) + 1
			}
			text += " " + op + " " + texts[i+1]
		}
		if second >= 0 {
			faulty(t, text+".", fault)
		} else if tree := parsed(t, text+"."); !sameTree(tree, flat(moduleOf(chained(es[:len(ops)+1], ops)))) {
			t.Error(text, tree)
		}
	}
}

// respaced is a text with other blanks between its words, and none where they are the same words without.
func respaced(r chance, text string) string {
	s := r.of("", " ", "%\n")
	words := saidWords(text)
	for i, w := range words {
		s += w.text
		between := r.of(" ", "\n", "", "  \n ", "%\n", "% \"( é\xff\x00 end.\n\n", "%%\n%\n ")
		if between == "" && i+1 < len(words) && saidWords(w.text + words[i+1].text)[0].text != w.text {
			between = " "
		}
		s += between
	}
	return s + r.of("", "%", "% \n", "%f() -> 1")
}

func TestBetweenWordsP4(t *testing.T) {
	t.Parallel()
	r := newChance(11)
	for _, m := range anyModules(1500) {
		text := respaced(r, textByForms(m))
		if len(text) > impl.MaxSource {
			continue
		}
		if tree, code, at := impl.Parse(text); code != impl.OK || at != 0 || !sameTree(tree, flat(m)) {
			t.Fatalf("%q: code %d at %d", text, code, at)
		}
	}
}

func TestParseAtItsLimitP4(t *testing.T) {
	for _, fill := range []string{" ", "\n", "%", "%\n"} {
		text := ahead + "1."
		text += strings.Repeat(fill, impl.MaxSource)[:impl.MaxSource-len(text)]
		if tree := parsed(t, text); !sameTree(tree, flat(moduleOf(nInt(1)))) {
			t.Error(fill, len(tree))
		}
		for _, more := range []string{" ", "\n", "%", ".", strings.Repeat("x", 100000)} {
			if tree, code, at := impl.Parse(text + more); len(tree) != 0 || code != impl.ErrBad || at != 0 {
				t.Error(fill, len(tree), code, at)
			}
		}
	}
	parsed(t, strings.Repeat(" ", impl.MaxSource-9)+"module m.")
	faulty(t, strings.Repeat(" ", impl.MaxSource), impl.MaxSource)
	if tree, code, at := impl.Parse(strings.Repeat("$", impl.MaxSource+1)); len(tree) != 0 || code != impl.ErrBad || at != 0 {
		t.Error(len(tree), code, at)
	}
}

func TestParseOfManyNodesP4(t *testing.T) {
	one := nInt(1)
	row := func(n int) string { return ahead + "[" + strings.TrimSuffix(strings.Repeat("1,", n), ",") + "]" }
	if tree := parsed(t, row(1994)+"."); len(tree) != impl.MaxTree || !sameTree(tree, flat(moduleOf(nList(0, slices.Repeat([]nd{one}, 1994)...)))) {
		t.Error(len(tree))
	}
	for _, text := range []string{row(1995) + ".", row(3900) + ".", ahead + strings.Repeat("-", 1995) + "1.", "module m." + strings.Repeat("f()->1.", 400), "module m. export f/1" + strings.Repeat(",f/1", 1991) + "." + " f()->1,1,1,1."} {
		if tree, code, at := impl.Parse(text); len(tree) != 0 || code != impl.ErrFull || at != 0 {
			t.Error(text[:40], len(tree), code, at)
		}
	}
	for text, nodes := range map[string]int{"module m." + strings.Repeat("f()->1.", 399): 1996, "module m. export f/1" + strings.Repeat(",f/1", 1990) + ". f()->1,1,1,1.": 2000} {
		if tree := parsed(t, text); len(tree) != nodes {
			t.Error(text[:40], len(tree))
		}
	}
	parsed(t, ahead+strings.Repeat("-", 1994)+"1.")
	// What cannot stand is told ahead of what is too much.
	faulty(t, row(3900)+",", len(row(3900))+1)
	faulty(t, row(3900)+" 01.", len(row(3900))+1)
	faulty(t, row(3900)+"$", len(row(3900)))
}

func TestParseOfDeepP4(t *testing.T) {
	for _, pair := range []struct {
		open, within, end string
		nodes             int
	}{{"(", "1", ")", 0}, {"[", "", "]", 1}, {"{", "1", "}", 1}, {"#{|", "1", "}", 1}, {"f(", "1", ")", 1}, {"begin ", "1", " end", 2}, {"-", "1", "", 1}, {"<<(", "1", ")>>", 3}, {"fun()->", "1", " end", 4}, {"1=", "1", "", 2}} {
		n := 1000
		text := ahead + strings.Repeat(pair.open, n) + pair.within + strings.Repeat(pair.end, n) + "."
		if len(text) > impl.MaxSource {
			n = 400
			text = ahead + strings.Repeat(pair.open, n) + pair.within + strings.Repeat(pair.end, n) + "."
		}
		tree, code, at := impl.Parse(text)
		want := pair.nodes*n + 5 + len(pair.within)
		if want > impl.MaxTree && (code != impl.ErrFull || at != 0) || want <= impl.MaxTree && (code != impl.OK || len(tree) != want) {
			t.Error(pair.open, len(tree), code, at)
		}
	}
	for _, s := range []string{"(", "[", "{", "-", "not ", "<<(", "#{|", "#{", "f(", "begin ", "case ", "try ", "receive ", "receive after ", "fun(", "fun()->", "1=", "1!", "1++", "[1|", "[1||"} {
		text := ahead
		text += strings.Repeat(s, (impl.MaxSource-len(text))/len(s))
		faulty(t, text, len(text))
	}
}

func TestWordsAtTheirLimitsP4(t *testing.T) {
	long := strings.Repeat
	read(t, long("a", 30), nAtom(long("a", 30)))
	read(t, "aZ9_", nAtom("aZ9_"))
	read(t, long("A", 30), nVar(long("A", 30)))
	read(t, long("_", 30), nVar(long("_", 30)))
	read(t, "1000000000000000", nInt(impl.MaxInt))
	read(t, "999999999999999", nInt(999999999999999))
	read(t, `"`+long("s", 200)+`"`, nStr(long("s", 200)))
	read(t, `"`+long(`\"`, 200)+`"`, nStr(long(`"`, 200)))
	read(t, `"`+long(`\n`, 100)+long(`\\`, 100)+`"`, nStr(long("\n", 100)+long(`\`, 100)))
	read(t, `""`, nStr(""))
	read(t, `" !#$%&'()~\""`, nStr(` !#$%&'()~"`))
	read(t, `"%\\%"`, nStr(`%\%`))
	for _, s := range []string{long("a", 31), long("A", 31), long("_", 31), "1000000000000001", "9999999999999999", "10000000000000000", "99999999999999999999", long("1", 500), "00", "01", "0001", "1a", "1_", "0x1", "12A",
		`"` + long("s", 201) + `"`, `"` + long(`\"`, 201) + `"`, `"` + long("s", 2000) + `"`, `"`, `"a`, `"\"`, `"\`, `"a\`, `"\a"`, `"\t"`, `"\ n"`, "\"\n\"", "\"\t\"", "\"\x1f\"", "\"\x7f\"", `"é"`, "\"\x80\"", "\"\xff\"", "\"\xc3\xa9\"",
		"#", "#[", "$", "&", "'a'", "?", "@", `\`, "^", "`", "~", "\t", "\r", "\x00", "\x7f", "\x80", "\xff", "é", "\u00a0", "\u2028", "\ufeff", "日"} {
		faulty(t, ahead+s+".", len(ahead))
		faulty(t, ahead+s, len(ahead))
		faulty(t, ahead+"1, {"+s+"}.", len(ahead)+4)
		faulty(t, s+"module m.", 0)
	}
	for _, s := range reserved {
		for _, text := range []string{"module §.", "module m. export §/1.", "module m. f() -> 1; §() -> 1.", ahead + "fun §/1.", ahead + "m:§().", ahead + "<<X/§>>.", ahead + "<<§>>.", ahead + "try 1 catch §:X -> 1 end.", ahead + "try 1 catch X:Y -> 1; §:X -> 1 end."} {
			faultyAtMark(t, strings.Replace(text, "§", "§"+s, 1))
		}
		if s != "export" {
			faulty(t, "module m. "+s+"() -> 1.", len("module m. "))
		}
		if !slices.Contains([]string{"begin", "case", "fun", "not", "receive", "try"}, s) {
			faulty(t, ahead+s+"(1).", len(ahead))
			faulty(t, ahead+"{1, "+s+"}.", len(ahead)+4)
		}
		read(t, s+"_", nAtom(s+"_"))
		read(t, s+"s", nAtom(s+"s"))
		read(t, strings.ToUpper(s), nVar(strings.ToUpper(s)))
		read(t, `"`+s+`"`, nStr(s))
	}
}

func TestParsedTreesShareNothing(t *testing.T) {
	text := textByForms(kindsModule())
	want, tree := parsed(t, text), parsed(t, text)
	for i := range tree {
		kids := tree[i].Kids
		for k := range kids[:cap(kids)] {
			kids[:cap(kids)][k] = -7
		}
		for k := i + 1; k < len(tree); k++ {
			if !slices.Equal(tree[k].Kids, want[k].Kids) {
				t.Fatal("kids of", i, "and of", k)
			}
		}
	}
	if !sameTree(parsed(t, text), want) {
		t.Error("what was answered once is kept")
	}
}

func TestConstantsOfSyntax(t *testing.T) {
	if impl.MaxSource != 8000 || impl.MaxTree != 2000 {
		t.Error("limits")
	}
	kinds := []int{impl.NdModule, impl.NdExport, impl.NdFunc, impl.NdClause, impl.NdGuard, impl.NdBody, impl.NdInt, impl.NdAtom, impl.NdVar, impl.NdStr, impl.NdTuple, impl.NdList, impl.NdMap, impl.NdBin, impl.NdSeg, impl.NdNone, impl.NdMatch, impl.NdOp, impl.NdUn, impl.NdSend, impl.NdCall, impl.NdRemote, impl.NdApply, impl.NdFun, impl.NdRefer, impl.NdCase, impl.NdReceive, impl.NdTry, impl.NdBegin, impl.NdComp, impl.NdGen}
	for i, kind := range kinds {
		if kind != i+1 {
			t.Error("kind", kind, "is not", i+1)
		}
	}
}
