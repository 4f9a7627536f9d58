package tests

import (
	"fmt"
	"math/rand"
	"slices"
	"strconv"
	"strings"
	"testing"

	"loop.example/g00019/impl"
)

// nd is a node with its kids within it.
type nd struct {
	kind int
	s    string
	n    int
	kids []nd
}

func node(kind int, s string, n int, kids ...nd) nd { return nd{kind, s, n, kids} }

func nInt(n int) nd { return node(impl.NdInt, "", n) }

func nAtom(s string) nd { return node(impl.NdAtom, s, 0) }

func nVar(s string) nd { return node(impl.NdVar, s, 0) }

func nStr(s string) nd { return node(impl.NdStr, s, 0) }

func nTuple(kids ...nd) nd { return node(impl.NdTuple, "", 0, kids...) }

func nList(n int, kids ...nd) nd { return node(impl.NdList, "", n, kids...) }

func nMap(n int, kids ...nd) nd { return node(impl.NdMap, "", n, kids...) }

func nBin(kids ...nd) nd { return node(impl.NdBin, "", 0, kids...) }

func nSeg(s string, n int, value nd, size nd) nd { return node(impl.NdSeg, s, n, value, size) }

func nNone() nd { return node(impl.NdNone, "", 0) }

func nMatch(a, b nd) nd { return node(impl.NdMatch, "", 0, a, b) }

func nOp(s string, a, b nd) nd { return node(impl.NdOp, s, 0, a, b) }

func nUn(s string, a nd) nd { return node(impl.NdUn, s, 0, a) }

func nSend(a, b nd) nd { return node(impl.NdSend, "", 0, a, b) }

func nCall(s string, kids ...nd) nd { return node(impl.NdCall, s, 0, kids...) }

func nRemote(s string, kids ...nd) nd { return node(impl.NdRemote, s, 0, kids...) }

func nApply(kids ...nd) nd { return node(impl.NdApply, "", 0, kids...) }

func nFun(kids ...nd) nd { return node(impl.NdFun, "", 0, kids...) }

func nRefer(s string, n int) nd { return node(impl.NdRefer, s, n) }

func nCase(kids ...nd) nd { return node(impl.NdCase, "", 0, kids...) }

func nReceive(n int, kids ...nd) nd { return node(impl.NdReceive, "", n, kids...) }

func nTry(n int, kids ...nd) nd { return node(impl.NdTry, "", n, kids...) }

func nBegin(body nd) nd { return node(impl.NdBegin, "", 0, body) }

func nComp(n int, kids ...nd) nd { return node(impl.NdComp, "", n, kids...) }

func nGen(n int, p, e nd) nd { return node(impl.NdGen, "", n, p, e) }

func nGuard(kids ...nd) nd { return node(impl.NdGuard, "", 0, kids...) }

func nBody(kids ...nd) nd { return node(impl.NdBody, "", 0, kids...) }

// nClause is a clause whose kids are its patterns, its guard and its body.
func nClause(kids ...nd) nd { return node(impl.NdClause, "", len(kids)-2, kids...) }

// nPlain is a clause without a guard and of one expression, ahead of which its patterns stand.
func nPlain(e nd, patterns ...nd) nd {
	return nClause(append(slices.Clone(patterns), nGuard(), nBody(e))...)
}

func nFunc(s string, n int, kids ...nd) nd { return node(impl.NdFunc, s, n, kids...) }

func nExport(s string, n int) nd { return node(impl.NdExport, s, n) }

func nModule(s string, kids ...nd) nd { return node(impl.NdModule, s, 0, kids...) }

// moduleOf is a module with one function whose body is these.
func moduleOf(es ...nd) nd {
	return nModule("m", nFunc("f", 0, nClause(nGuard(), nBody(es...))))
}

// flat is the tree as a list.
func flat(t nd) []impl.Node {
	tree, _ := flatBehind(nil, t)
	return tree
}

func flatBehind(tree []impl.Node, t nd) ([]impl.Node, int) {
	var kids []int
	for _, kid := range t.kids {
		var place int
		tree, place = flatBehind(tree, kid)
		kids = append(kids, place)
	}
	return append(tree, impl.Node{Kind: t.kind, S: t.s, N: t.n, Kids: kids}), len(tree)
}

// nested is the node at a place with its kids within it; not when it leads back or has more nodes than the list.
func nested(tree []impl.Node, i int, room *int) (nd, bool) {
	*room--
	if i < 0 || i >= len(tree) || *room < 0 {
		return nd{}, false
	}
	t := nd{kind: tree[i].Kind, s: tree[i].S, n: tree[i].N}
	for _, k := range tree[i].Kids {
		kid, is := nested(tree, k, room)
		if !is {
			return nd{}, false
		}
		t.kids = append(t.kids, kid)
	}
	return t, true
}

func sameTree(a, b []impl.Node) bool {
	return slices.EqualFunc(a, b, func(x, y impl.Node) bool {
		return x.Kind == y.Kind && x.S == y.S && x.N == y.N && slices.Equal(x.Kids, y.Kids)
	})
}

// copied is a tree that shares nothing with another one.
func copied(tree []impl.Node) []impl.Node {
	other := slices.Clone(tree)
	for i := range other {
		other[i].Kids = slices.Clone(other[i].Kids)
	}
	return other
}

// textByForms is a node's text, a second reading of what 3.3 says of Print, form by form.
func textByForms(t nd) string {
	k := t.kids
	switch t.kind {
	case impl.NdInt:
		return strconv.Itoa(t.n)
	case impl.NdAtom, impl.NdVar:
		return t.s
	case impl.NdStr:
		return `"` + strings.NewReplacer(`"`, `\"`, `\`, `\\`, "\n", `\n`).Replace(t.s) + `"`
	case impl.NdTuple:
		return "{" + textsByForms(k) + "}"
	case impl.NdList, impl.NdMap:
		return barredByForms(t)
	case impl.NdBin:
		return "<<" + textsByForms(k) + ">>"
	case impl.NdSeg:
		return segByForms(t)
	case impl.NdMatch:
		return fmt.Sprintf("(%s = %s)", textByForms(k[0]), textByForms(k[1]))
	case impl.NdSend:
		return fmt.Sprintf("(%s ! %s)", textByForms(k[0]), textByForms(k[1]))
	case impl.NdOp:
		return fmt.Sprintf("(%s %s %s)", textByForms(k[0]), t.s, textByForms(k[1]))
	case impl.NdUn:
		return fmt.Sprintf("(%s %s)", t.s, textByForms(k[0]))
	case impl.NdCall, impl.NdRemote:
		return t.s + "(" + textsByForms(k) + ")"
	case impl.NdApply:
		return closedByForms(k[0]) + "(" + textsByForms(k[1:]) + ")"
	case impl.NdFun:
		return "fun" + clausesByForms(k, "(", ")") + " end"
	case impl.NdRefer:
		return fmt.Sprintf("fun %s/%d", t.s, t.n)
	case impl.NdGen:
		return textByForms(k[0]) + " <- " + textByForms(k[1])
	}
	return blockByForms(t)
}

func blockByForms(t nd) string {
	k := t.kids
	switch t.kind {
	case impl.NdCase:
		return "case " + textByForms(k[0]) + " of " + clausesByForms(k[1:], "", "") + " end"
	case impl.NdReceive:
		s := "receive "
		if n := len(k) - 2*t.n; n > 0 {
			s += clausesByForms(k[:n], "", "") + " "
		}
		if t.n == 1 {
			s += "after " + textByForms(k[len(k)-2]) + " -> " + textsByForms(k[len(k)-1].kids) + " "
		}
		return s + "end"
	case impl.NdTry:
		s := "try " + textsByForms(k[0].kids) + " catch " + clausesByForms(k[1:len(k)-t.n], "", "")
		if t.n == 1 {
			s += " after " + textsByForms(k[len(k)-1].kids)
		}
		return s + " end"
	case impl.NdBegin:
		return "begin " + textsByForms(k[0].kids) + " end"
	case impl.NdComp:
		s := textByForms(k[0]) + " || " + textsByForms(k[1:])
		if t.n == 1 {
			return "<<" + s + ">>"
		}
		return "[" + s + "]"
	case impl.NdModule:
		s := "module " + t.s + "."
		for _, f := range k {
			if f.kind == impl.NdExport {
				s += fmt.Sprintf("\nexport %s/%d.", f.s, f.n)
			} else {
				s += "\n" + clausesByForms(f.kids, f.s+"(", ")") + "."
			}
		}
		return s
	}
	panic(t.kind)
}

func textsByForms(kids []nd) string {
	var row []string
	for _, kid := range kids {
		row = append(row, textByForms(kid))
	}
	return strings.Join(row, ", ")
}

func barredByForms(t nd) string {
	ahead := t.kids[:len(t.kids)-t.n]
	open, end, row := "[", "]", textsByForms(ahead)
	if t.kind == impl.NdMap {
		var pairs []string
		for pair := range slices.Chunk(ahead, 2) {
			pairs = append(pairs, textByForms(pair[0])+" => "+textByForms(pair[1]))
		}
		open, end, row = "#{", "}", strings.Join(pairs, ", ")
	}
	if t.n == 1 {
		row = strings.TrimLeft(row+" | ", " ") + textByForms(t.kids[len(t.kids)-1])
	}
	return open + row + end
}

func segByForms(t nd) string {
	s := closedByForms(t.kids[0])
	if t.kids[1].kind != impl.NdNone {
		s += ":" + closedByForms(t.kids[1])
	}
	if t.s == "binary" {
		s += "/binary"
	}
	return s + []string{"", "/signed", "/little", "/signed/little", "/bits"}[t.n]
}

func closedByForms(t nd) string {
	s := textByForms(t)
	if s[0] == '(' && t.kind != impl.NdApply || t.kind == impl.NdInt || t.kind == impl.NdVar || t.kind == impl.NdStr {
		return s
	}
	return "(" + s + ")"
}

func clausesByForms(kids []nd, open string, end string) string {
	var row []string
	for _, c := range kids {
		s := open + textsByForms(c.kids[:c.n]) + end
		if c.n == 2 && open == "" {
			s = textByForms(c.kids[0]) + ":" + textByForms(c.kids[1])
		}
		if guard := c.kids[c.n]; len(guard.kids) > 0 {
			s += " when " + textsByForms(guard.kids)
		}
		row = append(row, s+" -> "+textsByForms(c.kids[c.n+1].kids))
	}
	return strings.Join(row, "; ")
}

// chance makes trees by chance, the same ones in each run.
type chance struct{ *rand.Rand }

func newChance(seed int64) chance { return chance{rand.New(rand.NewSource(seed))} }

func (r chance) of(texts ...string) string { return texts[r.Intn(len(texts))] }

func (r chance) name() string {
	return r.of("a", "f", "g", "int", "binary", "signed", "little", "bits", "ok", "x_1Z", "end_", "error", strings.Repeat("z", 30))
}

func (r chance) variable() string {
	return r.of("X", "Y", "_", "_a", "__", "A0z_", "End", "_end", strings.Repeat("Z", 30))
}

func (r chance) text() string {
	return r.of("", "a", "\n", `"`, `\`, `\n`, " %~", "(", "end", strings.Repeat(`"`, 7))
}

func (r chance) number() int { return []int{0, 1, 7, 10, 900, impl.MaxInt}[r.Intn(6)] }

func (r chance) exprs(least, deep int) []nd {
	var row []nd
	for range least + r.Intn(3) {
		row = append(row, r.expr(deep-1))
	}
	return row
}

func (r chance) body(deep int) nd { return nBody(r.exprs(1, deep)...) }

// clauses is one to three clauses, each with so many patterns; the first one of a try's is an atom or a variable.
func (r chance) clauses(patterns, deep int, try bool) []nd {
	var row []nd
	for range 1 + r.Intn(2) {
		var kids []nd
		for i := range patterns {
			switch {
			case i > 0 || !try:
				kids = append(kids, r.expr(deep-1))
			case r.Intn(2) == 0:
				kids = append(kids, nAtom(r.name()))
			default:
				kids = append(kids, nVar(r.variable()))
			}
		}
		var guard []nd
		if r.Intn(3) == 0 {
			guard = r.exprs(1, deep)
		}
		row = append(row, nClause(append(kids, nGuard(guard...), r.body(deep))...))
	}
	return row
}

func (r chance) seg(deep int) nd {
	size := nNone()
	if r.Intn(2) == 0 {
		size = r.expr(deep - 1)
	}
	if r.Intn(2) == 0 {
		return nSeg("int", r.Intn(4), r.expr(deep-1), size)
	}
	return nSeg("binary", 4*r.Intn(2), r.expr(deep-1), size)
}

func (r chance) segs(deep int) []nd {
	var row []nd
	for range r.Intn(3) {
		row = append(row, r.seg(deep))
	}
	return row
}

func (r chance) expr(deep int) nd {
	if deep <= 0 {
		return []nd{nInt(r.number()), nAtom(r.name()), nVar(r.variable()), nStr(r.text()), nRefer(r.name(), r.number()), nTuple(), nBin()}[r.Intn(7)]
	}
	switch r.Intn(14) {
	case 0:
		return nTuple(r.exprs(0, deep)...)
	case 1:
		n := r.Intn(2)
		return nList(n, r.exprs(2*n, deep)...)
	case 2:
		n := r.Intn(2)
		row := r.exprs(0, deep)
		for range len(row) + n {
			row = append(row, r.expr(deep-1))
		}
		return nMap(n, row...)
	case 3:
		return nBin(r.segs(deep)...)
	case 4:
		return []func(nd, nd) nd{nMatch, nSend}[r.Intn(2)](r.expr(deep-1), r.expr(deep-1))
	case 5, 6:
		return nOp(r.of(operators...), r.expr(deep-1), r.expr(deep-1))
	case 7:
		return nUn(r.of("-", "not"), r.expr(deep-1))
	case 8:
		return nCall(r.name(), r.exprs(0, deep)...)
	case 9:
		return nRemote(r.name()+":"+r.name(), r.exprs(0, deep)...)
	case 10:
		return nApply(r.exprs(1, deep)...)
	}
	return r.block(deep)
}

func (r chance) block(deep int) nd {
	n := r.Intn(2)
	switch r.Intn(6) {
	case 0:
		return nFun(r.clauses(r.Intn(3), deep, false)...)
	case 1:
		return nCase(append([]nd{r.expr(deep - 1)}, r.clauses(1, deep, false)...)...)
	case 2:
		var kids []nd
		if r.Intn(3) > 0 {
			kids = r.clauses(1, deep, false)
		}
		if n == 1 {
			kids = append(kids, r.expr(deep-1), r.body(deep))
		}
		return nReceive(n, kids...)
	case 3:
		kids := append([]nd{r.body(deep)}, r.clauses(2, deep, true)...)
		if n == 1 {
			kids = append(kids, r.body(deep))
		}
		return nTry(n, kids...)
	case 4:
		return nBegin(r.body(deep))
	}
	kids := []nd{r.expr(deep - 1)}
	if n == 1 {
		kids[0] = r.seg(deep)
	}
	for range 1 + r.Intn(3) {
		if r.Intn(3) == 0 {
			kids = append(kids, r.expr(deep-1))
		} else {
			kids = append(kids, nGen(n, r.expr(deep-1), r.expr(deep-1)))
		}
	}
	return nComp(n, kids...)
}

func (r chance) module(deep int) nd {
	var kids []nd
	for range r.Intn(3) {
		kids = append(kids, nExport(r.name(), r.number()))
	}
	for range r.Intn(4) {
		n := r.Intn(3)
		kids = append(kids, nFunc(r.name(), n, r.clauses(n, deep, false)...))
	}
	return nModule(r.name(), kids...)
}

// anyModules is modules by chance, those that have a text and are no larger than a tree may be.
func anyModules(n int) []nd {
	r := newChance(3)
	var row []nd
	for len(row) < n {
		t := r.module(1 + r.Intn(4))
		if len(flat(t)) <= impl.MaxTree && len(textByForms(t)) <= impl.MaxSource {
			row = append(row, t)
		}
	}
	return row
}

// kindsModule is a module with a node of each Kind, and of each with each N it may have.
func kindsModule() nd {
	x, y, one := nVar("X"), nVar("Y"), nInt(1)
	seg := nSeg("int", 0, x, nNone())
	body := []nd{
		nMatch(x, nInt(impl.MaxInt)), nAtom("a"), nStr("a\"\\\n"), nTuple(), nTuple(x), nList(0), nList(0, x, y), nList(1, x, y), nList(1, x, one, y),
		nMap(0), nMap(0, x, y), nMap(1, x), nMap(1, x, y, one, x, y), nBin(),
		nBin(seg, nSeg("int", 1, nAtom("a"), one), nSeg("int", 2, nStr("s"), x), nSeg("int", 3, nOp("+", x, y), nStr("s")), nSeg("binary", 0, nTuple(), nUn("-", one)), nSeg("binary", 4, x, nCall("f"))),
		nUn("-", one), nUn("not", x), nSend(x, y), nCall("f"), nCall("f", x, y), nRemote("m:f"), nRemote("lists:reverse", x), nApply(x), nApply(nAtom("f"), x, y), nApply(nApply(x), y), nApply(nRefer("f", 2), y), nApply(nSend(x, y)),
		nFun(nPlain(x)), nFun(nClause(x, y, nGuard(x, y), nBody(x, y)), nPlain(x, x, one)), nRefer("f", 0), nRefer("g", impl.MaxInt),
		nCase(x, nPlain(y, one), nClause(y, nGuard(y), nBody(one, x))), nReceive(0), nReceive(0, nPlain(x, x)), nReceive(1, one, nBody(x)), nReceive(1, nPlain(x, x), nPlain(y, y), one, nBody(x, y)),
		nTry(0, nBody(x), nPlain(x, nAtom("error"), y)), nTry(1, nBody(x, y), nClause(x, y, nGuard(x), nBody(x)), nPlain(x, nVar("_"), nTuple(y)), nBody(one, x)),
		nBegin(nBody(x)), nBegin(nBody(x, y)), nComp(0, x, nGen(0, x, y), x, nGen(0, y, x)), nComp(0, x, y), nComp(1, seg, nGen(1, nBin(seg), y)), nComp(1, nSeg("binary", 4, x, one), x, nGen(1, x, y)),
	}
	for _, op := range operators {
		body = append(body, nOp(op, x, one))
	}
	return nModule("m", nExport("f", 0), nExport("g", impl.MaxInt), nFunc("f", 0, nPlain(x)), nFunc("f", 2, nClause(x, y, nGuard(x, y), nBody(body...)), nPlain(one, x, one)), nFunc("g", 1, nPlain(x, y)))
}

var operators = []string{"orelse", "andalso", "or", "and", "==", "/=", "=:=", "=/=", "<", "=<", ">", ">=", "++", "+", "-", "*", "div", "rem"}

var reserved = []string{"after", "and", "andalso", "begin", "case", "catch", "div", "end", "export", "fun", "module", "not", "of", "or", "orelse", "receive", "rem", "try", "when"}

// parsed is the tree of a text that is right.
func parsed(t *testing.T, text string) []impl.Node {
	t.Helper()
	tree, code, at := impl.Parse(text)
	if code != impl.OK || at != 0 {
		t.Errorf("Parse(%q): code %d at %d", text, code, at)
	}
	return tree
}

// faulty asks for the first fault of a text.
func faulty(t *testing.T, text string, at int) {
	t.Helper()
	tree, code, got := impl.Parse(text)
	if len(tree) != 0 || code != impl.ErrText || got != at {
		t.Errorf("Parse(%q): %d nodes, code %d at %d, not at %d", text, len(tree), code, got, at)
	}
}

func TestHelpersOfSyntax(t *testing.T) {
	kinds := map[int]bool{}
	for _, n := range flat(kindsModule()) {
		kinds[n.Kind] = true
	}
	if len(kinds) != 31 {
		t.Error("kinds:", len(kinds))
	}
	tree := flat(nModule("m", nExport("f", 1), nFunc("f", 0, nPlain(nOp("+", nInt(1), nInt(2))))))
	want := []impl.Node{{Kind: 2, S: "f", N: 1}, {Kind: 5}, {Kind: 7, N: 1}, {Kind: 7, N: 2}, {Kind: 18, S: "+", Kids: []int{2, 3}}, {Kind: 6, Kids: []int{4}}, {Kind: 4, Kids: []int{1, 5}}, {Kind: 3, S: "f", Kids: []int{6}}, {Kind: 1, S: "m", Kids: []int{0, 7}}}
	if !sameTree(tree, want) {
		t.Error(tree)
	}
	if sameTree(tree, want[:8]) || sameTree(tree, flat(moduleOf(nInt(1)))) {
		t.Error("sameTree")
	}
}
