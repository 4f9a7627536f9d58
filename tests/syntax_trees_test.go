package tests

import (
	"regexp"
	"slices"
	"strconv"
	"strings"
	"testing"

	"loop.example/g00019/impl"
)

// changed is a tree after a change to a copy.
func changed(m nd, change func(tree []impl.Node)) []impl.Node {
	tree := flat(m)
	change(tree)
	return tree
}

func inClause(kids ...nd) nd {
	return nModule("m", nFunc("f", 0, node(impl.NdClause, "", 0, kids...)))
}

// wrongTrees is lists of nodes that are no modules, each with what is wrong about it.
func wrongTrees() map[string][]impl.Node {
	all := map[string][]impl.Node{}
	for _, more := range []map[string][]impl.Node{wrongLists(), wrongKids(), wrongBlocks(), wrongFields(), wrongTexts()} {
		for name, tree := range more {
			all[name] = tree
		}
	}
	return all
}

// wrongLists is those whose nodes do not stand as they have to.
func wrongLists() map[string][]impl.Node {
	x, one := nVar("X"), nInt(1)
	m := moduleOf(nTuple(x, one), nTuple(one))
	tree := flat(m) // guard, X, 1, {X, 1}, 1, {1}, body, clause, function, module
	loop := make([]int, 1000000)
	return map[string][]impl.Node{
		"none":                   nil,
		"empty":                  {},
		"a zero node":            {{}},
		"no module":              tree[:len(tree)-1],
		"an expression":          flat(x),
		"two modules":            slices.Concat(flat(nModule("m")), flat(nModule("m"))),
		"a node in front":        slices.Concat(flat(x), flat(nModule("m"))),
		"a node behind":          slices.Concat(flat(nModule("m")), flat(x)),
		"module within":          flat(nModule("m", nModule("m"))),
		"kid below":              changed(m, func(tree []impl.Node) { tree[3].Kids[0] = -1 }),
		"kid is itself":          changed(m, func(tree []impl.Node) { tree[3].Kids[1] = 3 }),
		"kid behind":             changed(m, func(tree []impl.Node) { tree[3].Kids[1] = 4 }),
		"kid beyond":             changed(m, func(tree []impl.Node) { tree[3].Kids[1] = 1000000 }),
		"greatest kid":           changed(m, func(tree []impl.Node) { tree[3].Kids[1] = 1<<63 - 1 }),
		"least kid":              changed(m, func(tree []impl.Node) { tree[3].Kids[1] = -1 << 63 }),
		"kids the wrong way":     changed(m, func(tree []impl.Node) { tree[3].Kids = []int{2, 1} }),
		"kid twice":              changed(m, func(tree []impl.Node) { tree[3].Kids = []int{2, 2} }),
		"kid left out":           changed(m, func(tree []impl.Node) { tree[3].Kids = []int{2} }),
		"last kid left out":      changed(m, func(tree []impl.Node) { tree[3].Kids = []int{1} }),
		"kid of another":         changed(m, func(tree []impl.Node) { tree[5].Kids = []int{2} }),
		"kid of two":             changed(m, func(tree []impl.Node) { tree[5].Kids = []int{2, 4} }),
		"kid's kid":              changed(m, func(tree []impl.Node) { tree[6].Kids = []int{1, 2, 5} }),
		"first node left":        changed(m, func(tree []impl.Node) { tree[7].Kids = []int{6}; tree[7].N = -1 }),
		"a kid ahead of a leaf":  changed(m, func(tree []impl.Node) { tree[0].Kids = []int{-1} }),
		"a million kids":         changed(m, func(tree []impl.Node) { tree[3].Kids = loop }),
		"2001 nodes":             flat(moduleOf(slices.Repeat([]nd{one}, 1996)...)),
		"2001 nodes, one long":   flat(moduleOf(nList(0, slices.Repeat([]nd{one}, 1995)...))),
		"function's node behind": changed(nModule("m", nFunc("f", 0, nPlain(x)), nFunc("g", 0, nPlain(x))), func(tree []impl.Node) { tree[10].Kids[0] = 3 }),
	}
}

// wrongKids is those in which an expression's or a form's kids are of the wrong kind, too many or too few.
func wrongKids() map[string][]impl.Node {
	x, one := nVar("X"), nInt(1)
	seg := nSeg("int", 0, x, nNone())
	trees := map[string]nd{
		"function, then export":    nModule("m", nFunc("f", 0, nPlain(x)), nExport("f", 0)),
		"an expression as a form":  nModule("m", x),
		"a clause as a form":       nModule("m", nPlain(x)),
		"export with a kid":        nModule("m", node(impl.NdExport, "f", 0, x)),
		"function without clauses": nModule("m", nFunc("f", 0)),
		"function's number above":  nModule("m", nFunc("f", 1, nPlain(x))),
		"function's number below":  nModule("m", nFunc("f", 0, nPlain(x, x))),
		"second clause's number":   nModule("m", nFunc("f", 1, nPlain(x, x), nPlain(x))),
		"function's body alone":    nModule("m", nFunc("f", 0, nBody(x))),
		"guard and clause":         nModule("m", nFunc("f", 0, nPlain(x), nGuard())),
		"clause without a guard":   inClause(nBody(x)),
		"clause without a body":    inClause(nGuard()),
		"clause with two guards":   inClause(nGuard(), nGuard(), nBody(x)),
		"clause with two bodies":   inClause(nGuard(), nBody(x), nBody(x)),
		"body ahead of the guard":  inClause(nBody(x), nGuard()),
		"pattern behind the guard": nModule("m", nFunc("f", 1, nClause(nGuard(), x, nBody(x)))),
		"pattern too many":         inClause(x, nGuard(), nBody(x)),
		"body as a pattern":        nModule("m", nFunc("f", 1, nPlain(x, nBody(x)))),
		"segment as a pattern":     nModule("m", nFunc("f", 1, nPlain(x, seg))),
		"guard with a generator":   inClause(nGuard(nGen(0, x, x)), nBody(x)),
		"empty body":               inClause(nGuard(), nBody()),
		"body with a segment":      moduleOf(seg),
		"body with a none":         moduleOf(nNone()),
		"body with a generator":    moduleOf(nGen(0, x, x)),
		"body with a clause":       moduleOf(nPlain(x)),
		"body with a guard":        moduleOf(nGuard()),
		"body with a body":         moduleOf(nBody(x)),
		"body with a function":     moduleOf(nFunc("f", 0, nPlain(x))),
		"body with an export":      moduleOf(nExport("f", 0)),
		"number with a kid":        moduleOf(node(impl.NdInt, "", 1, x)),
		"atom with a kid":          moduleOf(node(impl.NdAtom, "a", 0, x)),
		"variable with a kid":      moduleOf(node(impl.NdVar, "X", 0, x)),
		"string with a kid":        moduleOf(node(impl.NdStr, "", 0, x)),
		"refer with a kid":         moduleOf(node(impl.NdRefer, "f", 0, x)),
		"tuple with a none":        moduleOf(nTuple(x, nNone())),
		"list with a generator":    moduleOf(nList(0, x, nGen(0, x, x))),
		"tail alone":               moduleOf(nList(1, x)),
		"tail without a list":      moduleOf(nList(1)),
		"map with half a pair":     moduleOf(nMap(0, x, x, x)),
		"map that isn't changed":   moduleOf(nMap(1, x, x)),
		"map changed, empty":       moduleOf(nMap(1)),
		"map with a segment":       moduleOf(nMap(0, x, seg)),
		"bin of an expression":     moduleOf(nBin(x)),
		"bin of both":              moduleOf(nBin(seg, x)),
		"bin with a none":          moduleOf(nBin(seg, nNone())),
		"segment without a size":   moduleOf(nBin(node(impl.NdSeg, "int", 0, x))),
		"segment without kids":     moduleOf(nBin(node(impl.NdSeg, "int", 0))),
		"segment with three":       moduleOf(nBin(node(impl.NdSeg, "int", 0, x, x, x))),
		"segment of a segment":     moduleOf(nBin(nSeg("int", 0, seg, nNone()))),
		"segment of a none":        moduleOf(nBin(nSeg("int", 0, nNone(), x))),
		"segment's size a segment": moduleOf(nBin(nSeg("int", 0, x, seg))),
		"none with a kid":          moduleOf(nBin(nSeg("int", 0, x, node(impl.NdNone, "", 0, x)))),
		"match of one":             moduleOf(node(impl.NdMatch, "", 0, x)),
		"match of three":           moduleOf(node(impl.NdMatch, "", 0, x, x, x)),
		"match of a segment":       moduleOf(nMatch(seg, x)),
		"operator with one":        moduleOf(node(impl.NdOp, "+", 0, x)),
		"operator with three":      moduleOf(node(impl.NdOp, "+", 0, x, x, x)),
		"operator with a body":     moduleOf(nOp("+", x, nBody(x))),
		"unary with none":          moduleOf(node(impl.NdUn, "-", 0)),
		"unary with two":           moduleOf(node(impl.NdUn, "-", 0, x, x)),
		"unary of a generator":     moduleOf(nUn("-", nGen(0, x, x))),
		"send of one":              moduleOf(node(impl.NdSend, "", 0, x)),
		"send of three":            moduleOf(node(impl.NdSend, "", 0, x, x, x)),
		"call of a body":           moduleOf(nCall("f", nBody(x))),
		"remote of a none":         moduleOf(nRemote("m:f", nNone())),
		"apply of nothing":         moduleOf(nApply()),
		"apply of a segment":       moduleOf(nApply(seg, one)),
		"apply with a clause":      moduleOf(nApply(x, nPlain(x))),
	}
	all := map[string][]impl.Node{}
	for name, m := range trees {
		all[name] = flat(m)
	}
	return all
}

// wrongBlocks is those in which a node with clauses, bodies or generators has the wrong kids.
func wrongBlocks() map[string][]impl.Node {
	x, one, body := nVar("X"), nInt(1), nBody(nVar("X"))
	seg := nSeg("int", 0, x, nNone())
	plain, catch := nPlain(x, x), nPlain(x, nAtom("error"), x)
	wrong := map[string]nd{
		"fun without clauses":         nFun(),
		"fun's clauses of two sizes":  nFun(nPlain(x, x), nPlain(x)),
		"fun of a body":               nFun(body),
		"fun with a body behind":      nFun(plain, body),
		"fun of an expression":        nFun(x),
		"case alone":                  nCase(),
		"case without clauses":        nCase(x),
		"case without a value":        nCase(plain),
		"case with two patterns":      nCase(x, nPlain(x, x, x)),
		"case without a pattern":      nCase(x, nPlain(x)),
		"case with two values":        nCase(x, x, plain),
		"case with a second of two":   nCase(x, plain, catch),
		"case with a body behind":     nCase(x, plain, body),
		"receive with a value":        nReceive(0, x),
		"receive with two patterns":   nReceive(0, catch),
		"receive with a body":         nReceive(0, plain, body),
		"receive with after, unsaid":  nReceive(0, plain, one, body),
		"receive without after":       nReceive(1, plain),
		"receive after nothing":       nReceive(1),
		"receive after a value":       nReceive(1, plain, one),
		"receive after a body":        nReceive(1, plain, body),
		"receive after two values":    nReceive(1, plain, one, one, body),
		"receive after two bodies":    nReceive(1, plain, one, body, body),
		"receive, clause behind":      nReceive(1, one, body, plain),
		"try alone":                   nTry(0, body),
		"try without a body":          nTry(0, catch),
		"try with nothing":            nTry(0),
		"try of a value":              nTry(0, x, catch),
		"try with one pattern":        nTry(0, body, plain),
		"try with three patterns":     nTry(0, body, nPlain(x, nAtom("error"), x, x)),
		"try with a number for class": nTry(0, body, nPlain(x, one, x)),
		"try with a tuple for class":  nTry(0, body, nPlain(x, nTuple(), x)),
		"try with a string for class": nTry(0, body, nPlain(x, nStr("error"), x)),
		"try, the second so":          nTry(0, body, catch, nPlain(x, nCall("error"), x)),
		"try with after, unsaid":      nTry(0, body, catch, body),
		"try without after":           nTry(1, body, catch),
		"try without clauses":         nTry(1, body, body),
		"try after two bodies":        nTry(1, body, catch, body, body),
		"try after a value":           nTry(1, body, catch, x),
		"try, clause behind":          nTry(1, body, catch, body, catch),
		"begin alone":                 node(impl.NdBegin, "", 0),
		"begin of a value":            nBegin(x),
		"begin of two bodies":         node(impl.NdBegin, "", 0, body, body),
		"comprehension alone":         nComp(0),
		"comprehension of no parts":   nComp(0, x),
		"binary one of no parts":      nComp(1, seg),
		"comprehension of a segment":  nComp(0, seg, nGen(0, x, x)),
		"binary one of a value":       nComp(1, x, nGen(1, x, x)),
		"comprehension, other gen":    nComp(0, x, nGen(1, x, x)),
		"binary one, other gen":       nComp(1, seg, nGen(0, x, x)),
		"second generator other":      nComp(0, x, nGen(0, x, x), nGen(1, x, x)),
		"comprehension of gens":       nComp(0, nGen(0, x, x), nGen(0, x, x)),
		"comprehension, body":         nComp(0, x, nGen(0, x, x), body),
		"comprehension, segment":      nComp(1, seg, seg),
		"generator of one":            nComp(0, x, node(impl.NdGen, "", 0, x)),
		"generator of three":          nComp(0, x, node(impl.NdGen, "", 0, x, x, x)),
		"generator of a segment":      nComp(1, seg, nGen(1, seg, x)),
	}
	all := map[string][]impl.Node{}
	for name, e := range wrong {
		all[name] = flat(moduleOf(e))
	}
	return all
}

// wrongFields is those with a field that is not zero where the table names none, or is too large or small.
func wrongFields() map[string][]impl.Node {
	all := map[string][]impl.Node{}
	numbered := map[int][]int{impl.NdExport: {-1, impl.MaxInt + 1}, impl.NdFunc: {-1, 3, 1 << 62}, impl.NdClause: {-1, 3, 1 << 62, -1 << 63}, impl.NdInt: {-1, impl.MaxInt + 1, -1 << 63}, impl.NdRefer: {-1, impl.MaxInt + 1},
		impl.NdList: {-1, 2}, impl.NdMap: {-1, 2, 3}, impl.NdSeg: {-1, 5, 6, 7, 8, 16}, impl.NdReceive: {-1, 2}, impl.NdTry: {-1, 2}, impl.NdComp: {-1, 2}, impl.NdGen: {-1, 2}}
	tree := flat(kindsModule())
	for i, n := range tree {
		wrong, named := numbered[n.Kind]
		if !named {
			wrong = []int{-1, 1, 2}
		}
		for _, v := range wrong {
			all["N "+strconv.Itoa(v)+" at "+strconv.Itoa(i)] = changed(kindsModule(), func(tree []impl.Node) { tree[i].N = v })
		}
		if n.S == "" && n.Kind != impl.NdStr {
			all["S at "+strconv.Itoa(i)] = changed(kindsModule(), func(tree []impl.Node) { tree[i].S = "a" })
			all["S + at "+strconv.Itoa(i)] = changed(kindsModule(), func(tree []impl.Node) { tree[i].S = "+" })
		}
		for _, kind := range []int{0, -1, 32, 1 << 62, -1 << 63} {
			all["kind "+strconv.Itoa(kind)+" at "+strconv.Itoa(i)] = changed(kindsModule(), func(tree []impl.Node) { tree[i].Kind = kind })
		}
	}
	x := nVar("X")
	for _, n := range []int{1, 2, 3, 5, 7} {
		all["binary "+strconv.Itoa(n)] = flat(moduleOf(nBin(nSeg("binary", n, x, nNone()))))
	}
	all["int with bits"] = flat(moduleOf(nBin(nSeg("int", 4, x, nNone()))))
	return all
}

// wrongTexts is those with a wrong name or text.
func wrongTexts() map[string][]impl.Node {
	all := map[string][]impl.Node{}
	x := nVar("X")
	wrong := append([]string{"", "A", "_a", "1", "a b", "a-", "aé", "a:", "a:b", "a\x00", strings.Repeat("a", 31)}, reserved...)
	for _, s := range wrong {
		for name, m := range map[string]nd{
			"module": nModule(s), "export": nModule("m", nExport(s, 0)), "function": nModule("m", nFunc(s, 0, nPlain(x))),
			"atom": moduleOf(nAtom(s)), "call": moduleOf(nCall(s)), "refer": moduleOf(nRefer(s, 1)),
			"remote's module": moduleOf(nRemote(s + ":f")), "remote's name": moduleOf(nRemote("m:" + s)), "remote's both": moduleOf(nRemote(s)),
			"pattern": nModule("m", nFunc("f", 1, nPlain(x, nAtom(s)))), "class": moduleOf(nTry(0, nBody(x), nPlain(x, nAtom(s), x))),
		} {
			all[name+" "+s] = flat(m)
		}
	}
	delete(all, "remote's both a:b")
	for _, s := range []string{"", "a", "1", "aX", "X-", "X y", "Xé", "X:Y", "X\n", strings.Repeat("X", 31), "_" + strings.Repeat("x", 30)} {
		all["variable "+s] = flat(moduleOf(nVar(s)))
	}
	for _, s := range []string{"\x1f", "\x7f", "\x00", "\t", "\r", "é", "\xff", "a\x80b", strings.Repeat("a", 201), strings.Repeat("\n", 201)} {
		all["string "+s] = flat(moduleOf(nStr(s)))
	}
	for _, s := range []string{"", "=", "!", "not", "a", "=>", ":=", "(", "<>", "++ ", "<-", "||", "--", "xor"} {
		all["operator "+s] = flat(moduleOf(nOp(s, x, x)))
	}
	for _, s := range []string{"", "+", "!", "a", "- ", "not not"} {
		all["unary "+s] = flat(moduleOf(nUn(s, x)))
	}
	for _, s := range []string{"", "a", "integer", "signed", "bits", "bin", "Int"} {
		all["segment "+s] = flat(moduleOf(nBin(nSeg(s, 0, x, nNone()))))
	}
	all["both of remote and more"] = flat(moduleOf(nRemote("a:b:c")))
	return all
}

func TestWrongTrees(t *testing.T) {
	for name, tree := range wrongTrees() {
		if impl.TreeOK(tree) {
			t.Error(name)
		}
	}
}

func TestRightTrees(t *testing.T) {
	one, x := nInt(1), nVar("X")
	for name, m := range map[string]nd{
		"each kind":           kindsModule(),
		"no forms":            nModule("m"),
		"names of 30":         nModule(strings.Repeat("a", 30), nExport(strings.Repeat("b", 30), 0), nFunc(strings.Repeat("c", 30), 0, nPlain(nRemote(strings.Repeat("d", 30)+":"+strings.Repeat("e", 30))), nPlain(nVar(strings.Repeat("_", 30))))),
		"greatest numbers":    nModule("m", nExport("f", impl.MaxInt), nFunc("f", 0, nPlain(nInt(impl.MaxInt)), nPlain(nRefer("f", impl.MaxInt)))),
		"string of 200":       moduleOf(nStr(strings.Repeat("~", 200)), nStr(strings.Repeat(`"`, 200)), nStr(strings.Repeat("\n", 200))),
		"all of a string":     moduleOf(nStr("\n !\"#$%&'()*+,-./0123456789:;<=>?@AZ[\\]^_`az{|}~")),
		"2000 nodes":          moduleOf(slices.Repeat([]nd{one}, 1995)...),
		"2000 nodes, one row": moduleOf(nTuple(slices.Repeat([]nd{one}, 1994)...)),
		"nearly reserved":     moduleOf(nAtom("ends"), nAtom("of_"), nAtom("xor"), nAtom("bor"), nAtom("int"), nAtom("binary"), nAtom("signed"), nAtom("little"), nAtom("bits"), nAtom("true"), nVar("End"), nVar("_end")),
		"many patterns":       nModule("m", nFunc("f", 500, nPlain(one, slices.Repeat([]nd{x}, 500)...))),
		"any fun's clauses":   moduleOf(nFun(nPlain(x), nPlain(one)), nFun(nPlain(x, x, x, x), nPlain(one, one, one, one))),
	} {
		if !impl.TreeOK(flat(m)) {
			t.Error(name)
		}
	}
	deep := one
	for range 1995 {
		deep = nUn("-", deep)
	}
	if impl.TreeOK(flat(moduleOf(deep))) || !impl.TreeOK(flat(moduleOf(deep.kids[0]))) {
		t.Error("2000 nodes, deep")
	}
}

// kidLetter is what a kid counts as, among the kids of a node of a Kind.
func kidLetter(of nd, kid nd) string {
	switch kid.kind {
	case impl.NdExport:
		return "x"
	case impl.NdFunc:
		return "f"
	case impl.NdClause:
		if of.kind == impl.NdTry {
			return map[bool]string{true: "t", false: "?"}[kid.n == 2 && (kid.kids[0].kind == impl.NdAtom || kid.kids[0].kind == impl.NdVar)]
		}
		if of.kind == impl.NdFun {
			return map[bool]string{true: "c", false: "?"}[kid.n == of.kids[0].n]
		}
		return map[bool]string{true: "c", false: "?"}[kid.n == 1 && of.kind != impl.NdFunc || kid.n == of.n && of.kind == impl.NdFunc]
	case impl.NdGuard:
		return "g"
	case impl.NdBody:
		return "b"
	case impl.NdSeg:
		return "s"
	case impl.NdNone:
		return "o"
	case impl.NdGen:
		return map[bool]string{true: "n", false: "?"}[kid.n == of.n]
	case impl.NdModule:
		return "?"
	}
	return "e"
}

// nodeForms is, for each Kind, what S, N and the letters of the kids may be, with blanks between them.
var nodeForms = map[int]string{
	impl.NdModule: `A 0 x*f*`, impl.NdExport: `A N `, impl.NdFunc: `A N c+`, impl.NdClause: ` N e*gb`, impl.NdGuard: ` 0 e*`, impl.NdBody: ` 0 e+`,
	impl.NdInt: ` N `, impl.NdAtom: `A 0 `, impl.NdVar: `[A-Z_][A-Za-z0-9_]{0,29} 0 `, impl.NdStr: `[ -~\n]{0,200} 0 `, impl.NdTuple: ` 0 e*`,
	impl.NdList: ` (0 e*|1 eee*)`, impl.NdMap: ` (0 (ee)*|1 (ee)*e)`, impl.NdBin: ` 0 s*`, impl.NdSeg: `(int [0-3]|binary [04]) e[eo]`, impl.NdNone: ` 0 `,
	impl.NdMatch: ` 0 ee`, impl.NdOp: `(orelse|andalso|or|and|==|/=|=:=|=/=|<|=<|>|>=|\+\+|\+|-|\*|div|rem) 0 ee`, impl.NdUn: `(-|not) 0 e`, impl.NdSend: ` 0 ee`,
	impl.NdCall: `A 0 e*`, impl.NdRemote: `A:A 0 e*`, impl.NdApply: ` 0 e+`, impl.NdFun: ` 0 c+`, impl.NdRefer: `A N `, impl.NdCase: ` 0 ec+`,
	impl.NdReceive: ` (0 c*|1 c*eb)`, impl.NdTry: ` (0 bt+|1 bt+b)`, impl.NdBegin: ` 0 b`, impl.NdComp: ` (0 e[en]+|1 s[en]+)`, impl.NdGen: ` [01] ee`,
}

func compiledForms() map[int]*regexp.Regexp {
	all := map[int]*regexp.Regexp{}
	for kind, form := range nodeForms {
		form = strings.NewReplacer("A ", "[a-z][A-Za-z0-9_]{0,29} ", "A:", "[a-z][A-Za-z0-9_]{0,29}:", "N", "[0-9]+").Replace(form)
		all[kind] = regexp.MustCompile(`^(?s:` + form + `)$`)
	}
	return all
}

// isNodeByForms tells whether a node is as the table asks; its kids are.
func isNodeByForms(forms map[int]*regexp.Regexp, t nd) bool {
	letters := ""
	for _, kid := range t.kids {
		if !isNodeByForms(forms, kid) {
			return false
		}
		letters += kidLetter(t, kid)
	}
	for name := range strings.SplitSeq(t.s, ":") {
		if slices.Contains(reserved, name) && !slices.Contains([]int{impl.NdOp, impl.NdUn, impl.NdStr}, t.kind) {
			return false
		}
	}
	if t.kind == impl.NdClause && t.n != strings.Count(letters, "e") || t.n > impl.MaxInt {
		return false
	}
	form := forms[t.kind]
	return form != nil && form.MatchString(t.s+" "+strconv.Itoa(t.n)+" "+letters)
}

// isTreeByForms is a second reading of TreeOK: the tree is built and laid out again.
func isTreeByForms(forms map[int]*regexp.Regexp, tree []impl.Node) bool {
	room := len(tree)
	t, is := nested(tree, len(tree)-1, &room)
	return is && len(tree) <= impl.MaxTree && t.kind == impl.NdModule && sameTree(flat(t), tree) && isNodeByForms(forms, t)
}

// spoiltTree is a tree with one thing about it altered.
func spoiltTree(r chance, tree []impl.Node) []impl.Node {
	tree = copied(tree)
	i := r.Intn(len(tree))
	n := &tree[i]
	switch r.Intn(9) {
	case 0:
		n.Kind = r.Intn(33)
	case 1:
		n.N = r.Intn(6) - 1
	case 2:
		n.S = r.of("", "a", "X", "+", "not", "int", "binary", "a:b", "end", "_")
	case 3:
		n.Kids = append(n.Kids, i-1)
	case 4:
		if len(n.Kids) > 0 {
			n.Kids = n.Kids[1:]
		}
	case 5:
		if len(n.Kids) > 0 {
			n.Kids[r.Intn(len(n.Kids))] = r.Intn(len(tree))
		}
	case 6:
		k := r.Intn(len(tree))
		tree[i], tree[k] = tree[k], tree[i]
	case 7:
		other := flat(r.module(2))
		*n = other[r.Intn(len(other))]
	case 8: // a node less, or one more, and all places behind it moved
		return movedTree(r, tree, i)
	}
	return tree
}

func movedTree(r chance, tree []impl.Node, i int) []impl.Node {
	by := 1
	if r.Intn(2) == 0 {
		by = -1
		tree = slices.Delete(tree, i, i+1)
	} else {
		tree = slices.Insert(tree, i, flat(r.expr(0))...)
	}
	for k := range tree {
		for j, kid := range tree[k].Kids {
			if kid >= i {
				tree[k].Kids[j] += by
			}
		}
	}
	return tree
}

func TestTreesHeldAgainstForms(t *testing.T) {
	t.Parallel()
	forms := compiledForms()
	r := newChance(5)
	right, wrong := 0, 0
	for range 15000 {
		tree := flat(r.module(1 + r.Intn(3)))
		for range r.Intn(3) {
			tree = spoiltTree(r, tree)
			if len(tree) == 0 {
				tree = flat(nModule("m"))
			}
		}
		want := isTreeByForms(forms, tree)
		if want {
			right++
		} else {
			wrong++
		}
		if impl.TreeOK(tree) != want {
			t.Fatal(want, tree)
		}
	}
	if right < 3000 || wrong < 3000 {
		t.Error(right, wrong)
	}
	for name, tree := range wrongTrees() {
		if isTreeByForms(forms, tree) {
			t.Error("the second reading takes", name)
		}
	}
}

func TestTreesStay(t *testing.T) {
	for _, m := range append(anyModules(50), kindsModule()) {
		tree := flat(m)
		for i := range tree {
			tree[i].Kids = append(tree[i].Kids, 7, 8, 9)[:len(tree[i].Kids)]
		}
		was := copied(tree)
		impl.TreeOK(tree)
		impl.Print(tree)
		if !sameTree(tree, was) {
			t.Error(textByForms(m))
		}
		for i, n := range tree {
			if !slices.Equal(n.Kids[len(n.Kids):len(n.Kids)+3], []int{7, 8, 9}) {
				t.Error("behind the kids of", i)
			}
		}
	}
}
