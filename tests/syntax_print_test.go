package tests

import (
	"strings"
	"testing"

	"loop.example/g00019/impl"
)

// printed asks for the text of a tree, and that Parse reads it as the tree again.
func printed(t *testing.T, m nd, want string) {
	t.Helper()
	tree := flat(m)
	text, code := impl.Print(tree)
	if text != want || code != impl.OK {
		t.Errorf("code %d, printed\n%s\nnot\n%s", code, text, want)
		return
	}
	if got := parsed(t, text); !sameTree(got, tree) {
		t.Errorf("%s\nis read as %v", text, got)
	}
}

func TestPrintOfEachKindP4(t *testing.T) {
	x, y, one := nVar("X"), nVar("Y"), nInt(1)
	body := nBody(x, y)
	for _, c := range []struct {
		e    nd
		text string
	}{
		{one, "1"}, {nInt(impl.MaxInt), "1000000000000000"}, {nAtom("ok"), "ok"}, {nVar("_"), "_"},
		{nStr(""), `""`}, {nStr("a\"b\\c\nd ~"), `"a\"b\\c\nd ~"`}, {nStr(`\n`), `"\\n"`},
		{nTuple(), "{}"}, {nTuple(x, nTuple(y)), "{X, {Y}}"},
		{nList(0), "[]"}, {nList(0, x), "[X]"}, {nList(0, x, y), "[X, Y]"}, {nList(1, x, y), "[X | Y]"}, {nList(1, x, y, nList(0)), "[X, Y | []]"},
		{nMap(0), "#{}"}, {nMap(0, x, one, y, nMap(0)), "#{X => 1, Y => #{}}"}, {nMap(1, x), "#{| X}"}, {nMap(1, x, one, y), "#{X => 1 | Y}"},
		{nBin(), "<<>>"}, {nBin(nSeg("int", 0, x, nNone()), nSeg("binary", 0, x, one)), "<<X, X:1/binary>>"},
		{nBin(nSeg("int", 1, one, x), nSeg("int", 2, nStr("a"), nNone()), nSeg("int", 3, x, nNone())), `<<1:X/signed, "a"/little, X/signed/little>>`},
		{nBin(nSeg("binary", 4, nAtom("a"), nStr("s"))), `<<(a):"s"/binary/bits>>`},
		{nBin(nSeg("int", 0, nOp("+", x, one), nUn("-", one)), nSeg("int", 0, nMatch(x, y), nSend(x, y))), "<<(X + 1):(- 1), (X = Y):(X ! Y)>>"},
		{nBin(nSeg("int", 0, nBin(nSeg("int", 0, nBin(), nNone())), nTuple())), "<<(<<(<<>>)>>):({})>>"},
		{nMatch(x, nMatch(y, one)), "(X = (Y = 1))"}, {nMatch(nMatch(x, y), one), "((X = Y) = 1)"},
		{nSend(x, nSend(y, one)), "(X ! (Y ! 1))"}, {nSend(nSend(x, y), one), "((X ! Y) ! 1)"},
		{nUn("-", one), "(- 1)"}, {nUn("not", nUn("-", nUn("-", x))), "(not (- (- X)))"},
		{nCall("g"), "g()"}, {nCall("g", x, nCall("h", y)), "g(X, h(Y))"}, {nRemote("m:f"), "m:f()"}, {nRemote("a:b", x, y), "a:b(X, Y)"},
		{nApply(x), "X()"}, {nApply(one, x), "1(X)"}, {nApply(nStr("a"), x, y), `"a"(X, Y)`}, {nApply(nAtom("f"), x), "(f)(X)"}, {nApply(nCall("f", x), y), "(f(X))(Y)"}, {nApply(nApply(x, y), one), "(X(Y))(1)"},
		{nApply(nOp("-", x, y)), "(X - Y)()"}, {nApply(nUn("not", x)), "(not X)()"}, {nApply(nMatch(x, y)), "(X = Y)()"}, {nApply(nSend(x, y)), "(X ! Y)()"}, {nApply(nTuple(), x), "({})(X)"}, {nApply(nRemote("a:b")), "(a:b())()"}, {nApply(nRefer("f", 1), x), "(fun f/1)(X)"},
		{nFun(nPlain(x)), "fun() -> X end"}, {nFun(nPlain(y, x, one), nClause(x, x, nGuard(x, y), body)), "fun(X, 1) -> Y; (X, X) when X, Y -> X, Y end"}, {nRefer("f", 0), "fun f/0"},
		{nCase(x, nPlain(y, one)), "case X of 1 -> Y end"}, {nCase(x, nClause(nTuple(), nGuard(one), body), nPlain(y, nVar("_"))), "case X of {} when 1 -> X, Y; _ -> Y end"},
		{nReceive(0), "receive end"}, {nReceive(0, nPlain(x, y), nPlain(y, x)), "receive Y -> X; X -> Y end"}, {nReceive(1, one, body), "receive after 1 -> X, Y end"}, {nReceive(1, nClause(x, nGuard(y), nBody(one)), one, body), "receive X when Y -> 1 after 1 -> X, Y end"},
		{nTry(0, body, nPlain(x, nAtom("error"), nVar("_"))), "try X, Y catch error:_ -> X end"}, {nTry(1, nBody(x), nClause(nVar("C"), nTuple(y), nGuard(x), body), nPlain(one, nVar("_"), nUn("-", one)), body), "try X catch C:{Y} when X -> X, Y; _:(- 1) -> 1 after X, Y end"},
		{nBegin(nBody(x)), "begin X end"}, {nBegin(body), "begin X, Y end"},
		{nComp(0, x, nGen(0, x, y)), "[X || X <- Y]"}, {nComp(0, nTuple(x), nGen(0, nTuple(x), y), nOp(">", x, one), nGen(0, y, nList(0))), "[{X} || {X} <- Y, (X > 1), Y <- []]"}, {nComp(0, x, y), "[X || Y]"},
		{nComp(1, nSeg("int", 0, x, nNone()), nGen(1, nBin(nSeg("int", 0, x, nInt(4))), nBin())), "<<X || <<X:4>> <- <<>>>>"}, {nComp(1, nSeg("binary", 4, nCall("g"), one), x), "<<(g()):1/binary/bits || X>>"},
	} {
		printed(t, moduleOf(c.e), "module m.\nf() -> "+c.text+".")
		printed(t, moduleOf(c.e, x, c.e), "module m.\nf() -> "+c.text+", X, "+c.text+".")
	}
	for _, op := range operators {
		printed(t, moduleOf(nOp(op, nOp(op, x, y), nOp(op, one, x))), "module m.\nf() -> ((X "+op+" Y) "+op+" (1 "+op+" X)).")
	}
}

func TestPrintOfFormsP4(t *testing.T) {
	x := nVar("X")
	printed(t, nModule("m"), "module m.")
	printed(t, nModule("m", nExport("f", 0), nExport("f", 0), nExport("g", impl.MaxInt)), "module m.\nexport f/0.\nexport f/0.\nexport g/1000000000000000.")
	printed(t, nModule("m", nFunc("f", 1, nPlain(x, x))), "module m.\nf(X) -> X.")
	printed(t, nModule("m", nExport("f", 2), nFunc("f", 2, nPlain(x, x, x), nClause(x, x, nGuard(x), nBody(x, x))), nFunc("g", 0, nPlain(x), nPlain(x))),
		"module m.\nexport f/2.\nf(X, X) -> X; f(X, X) when X -> X, X.\ng() -> X; g() -> X.")
}

func TestPrintHeldAgainstFormsP4(t *testing.T) {
	printed(t, kindsModule(), textByForms(kindsModule()))
	for _, m := range anyModules(3000) {
		printed(t, m, textByForms(m))
	}
}

// stringsModule is a module whose text has n bytes: strings in a row, none of more than 200.
func stringsModule(n int) nd {
	rest := n - len("module m.\nf() -> .") + len(", ")
	each := len(`"", `)
	count := (rest + 199 + each) / (200 + each)
	var row []nd
	for i := range count {
		size := (rest - each*count + i) / count // together they are what is wanted, however it is rounded
		row = append(row, nStr(strings.Repeat("s", size)))
	}
	return moduleOf(row...)
}

func TestPrintAtItsLimitP4(t *testing.T) {
	for n := impl.MaxSource - 300; n <= impl.MaxSource; n++ {
		if m := stringsModule(n); len(textByForms(m)) != n {
			t.Fatal(n, len(textByForms(m)))
		} else {
			printed(t, m, textByForms(m))
		}
	}
	for _, n := range []int{1, 2, 3, 50, 8000, 100000} {
		m := stringsModule(impl.MaxSource + n)
		if text, code := impl.Print(flat(m)); text != "" || code != impl.ErrFull {
			t.Error(n, len(text), code)
		}
	}
	long := nModule("m", nFunc("f", 0, nPlain(nStr(strings.Repeat("\n", 200)))))
	printed(t, long, "module m.\nf() -> \""+strings.Repeat(`\n`, 200)+"\".")
}

func TestPrintOfWrong(t *testing.T) {
	for name, tree := range wrongTrees() {
		if text, code := impl.Print(tree); text != "" || code != impl.ErrBad {
			t.Error(name, text, code)
		}
	}
	tooLong := flat(stringsModule(impl.MaxSource + 1))
	tooLong[0].S += "\x00"
	if _, code := impl.Print(tooLong); code != impl.ErrBad {
		t.Error("wrong and too long:", code)
	}
}
