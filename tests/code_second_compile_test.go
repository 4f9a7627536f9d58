package tests

import (
	"fmt"
	"slices"
	"strconv"
	"strings"
	"testing"

	"loop.example/g00019/impl"
)

// coder is a second reading of 5.2: it writes code as the text that codeOf reads. h is how many values are on the stack.
type coder struct {
	whole  *part
	all    []*part
	blocks []*part
	labels int
}

// compileByWords is the code of a tree in which Lint finds nothing.
func compileByWords(tree []impl.Node) impl.Code {
	c := &coder{}
	c.whole, c.all = partsOfTree(tree)
	for _, kind := range []int{impl.NdFunc, impl.NdFun} {
		for _, p := range c.all {
			if p.Kind == kind {
				c.blocks = append(c.blocks, p)
			}
		}
	}
	var text []string
	for _, b := range c.blocks {
		text = append(text, c.block(b))
	}
	code := codeOf(strings.Join(text, "\n"))
	code.Name = c.whole.S
	for k, b := range c.blocks {
		code.Fns[k].Node = b.at
		code.Fns[k].Export = b.Kind == impl.NdFunc && isExportedIn(c.all, b.S, b.N)
	}
	for _, p := range c.all {
		if p.Kind == impl.NdRefer {
			code.Refers = append(code.Refers, impl.CodeRef{Node: p.at, Name: p.S, Arity: p.N})
		}
	}
	return code
}

// blockAround is the function or fun that a node stands in.
func blockAround(p *part) *part {
	for p = p.up; p.Kind != impl.NdFunc && p.Kind != impl.NdFun; p = p.up {
	}
	return p
}

func (c *coder) heldBy(b *part) []string {
	if b.Kind == impl.NdFunc {
		return nil
	}
	return holds(c.all, b)
}

// binders is the variables that the block of a node binds ahead of it, each where it is bound first, in that order.
func (c *coder) binders(p *part) []*part {
	block := blockAround(p)
	held := c.heldBy(block)
	var row []*part
	for _, b := range c.all {
		if isBinding(b) && blockAround(b) == block && sees(p, b) && !slices.Contains(held, b.S) {
			row = append(row, b)
		}
	}
	slices.SortFunc(row, func(a, b *part) int { return slices.Compare(way(a), way(b)) })
	var first []*part
	for _, b := range row {
		if !slices.ContainsFunc(first, func(a *part) bool { return a.S == b.S }) {
			first = append(first, b)
		}
	}
	return first
}

// slot is the slot of a variable where a node stands, -1 when it is not bound there.
func (c *coder) slot(p *part, name string) int {
	held := c.heldBy(blockAround(p))
	if k := slices.Index(held, name); k >= 0 {
		return k
	}
	for _, b := range c.binders(p) {
		if b.S == name {
			return c.newSlot(b)
		}
	}
	return -1
}

// newSlot is the slot of a variable that is bound at a node.
func (c *coder) newSlot(p *part) int { return len(c.heldBy(blockAround(p))) + len(c.binders(p)) }

func (c *coder) slots(block *part) int {
	most := len(c.heldBy(block))
	for _, p := range c.all {
		if isBinding(p) && blockAround(p) == block && c.slot(p, p.S) < 0 {
			most = max(most, c.newSlot(p)+1)
		}
	}
	return most
}

func (c *coder) label() string {
	c.labels++
	return "l" + strconv.Itoa(c.labels)
}

func lines(row ...string) string {
	return strings.Join(slices.DeleteFunc(row, func(s string) bool { return s == "" }), "\n")
}

func inS(format string, values ...any) string { return fmt.Sprintf(format, values...) }

func shownTerm(t impl.Term) string {
	s, code := impl.TermShow(t)
	if code != impl.OK {
		panic("no text")
	}
	return s
}

func (c *coder) block(b *part) string {
	name := b.S
	if b.Kind == impl.NdFun {
		name = "fun"
	}
	arity := b.kids[0].N
	text := inS("%s/%d %d %d:", name, arity, c.slots(b), len(c.heldBy(b)))
	for _, clause := range b.kids {
		next := c.label()
		places := make([]int, arity)
		for p := range places {
			places[p] = p
		}
		text = lines(text, c.head(clause, places, next, arity), "Cut 0", c.body(clause.kids[clause.N+1], 0), "Return", next+":")
	}
	return lines(text, "Fail 0 function_clause")
}

// head is the patterns and the guard of a clause over values at places, with h values on the stack.
func (c *coder) head(clause *part, places []int, next string, h int) string {
	text := ""
	for i, p := range clause.kids[:clause.N] {
		text = lines(text, inS("Pick %d", places[i]), c.pattern(p, next, h))
	}
	guard := clause.kids[clause.N].kids
	if len(guard) == 0 {
		return text
	}
	text = lines(text, "Guard "+next)
	for _, e := range guard {
		text = lines(text, c.expr(e, h), "True")
	}
	return lines(text, "Ended")
}

func (c *coder) clauses(kids []*part, places []int, h int, end string, taken string) string {
	text := ""
	low := slices.Min(places)
	for _, clause := range kids {
		next := c.label()
		text = lines(text, c.head(clause, places, next, h), inS("Cut %d", low), taken, c.body(clause.kids[clause.N+1], low), "Jump "+end, next+":")
	}
	return text
}

// pattern fails to a label with f values.
func (c *coder) pattern(p *part, to string, f int) string {
	failing := func(op string, more string) string { return strings.TrimSpace(inS("%s %s %d %s", op, to, f, more)) }
	text := ""
	switch p.Kind {
	case impl.NdVar:
		switch slot := c.slot(p, p.S); {
		case p.S == "_":
			return "Drop"
		case slot >= 0:
			return failing("Same", strconv.Itoa(slot))
		}
		return inS("Store %d", c.newSlot(p))
	case impl.NdTuple:
		text = failing("Untuple", strconv.Itoa(len(p.kids)))
	case impl.NdList:
		text = failing([]string{"Unlist", "Untail"}[p.N], strconv.Itoa(len(p.kids)-p.N))
	case impl.NdMatch:
		text = "Dup"
	case impl.NdMap:
		text = failing("IsMap", "")
		for pair := range slices.Chunk(p.kids, 2) {
			text = lines(text, failing("Get", shownTerm(literalTerm(pair[0]))), c.pattern(pair[1], to, f))
		}
		return lines(text, "Drop")
	case impl.NdBin:
		return lines(failing("IsBin", ""), c.takes(p.kids, to, f), failing("End", ""))
	default:
		return failing("Is", shownTerm(literalTerm(p)))
	}
	for _, kid := range p.kids {
		text = lines(text, c.pattern(kid, to, f))
	}
	return text
}

func (c *coder) takes(segs []*part, to string, f int) string {
	text := ""
	for _, seg := range segs {
		flags := seg.N
		switch size := seg.kids[1]; size.Kind {
		case impl.NdInt:
			text = lines(text, inS("Push %d", size.N))
		case impl.NdVar:
			text = lines(text, inS("Load %d", c.slot(size, size.S)))
		case impl.NdNone:
			flags += 8
		}
		text = lines(text, inS("Take %s %d %d %s", to, f, flags, seg.S))
		if v := seg.kids[0]; v.Kind == impl.NdStr {
			text = lines(text, inS("Is %s %d %s", to, f, shownTerm(bin(v.S))))
		} else {
			text = lines(text, c.pattern(v, to, f))
		}
	}
	return text
}

func (c *coder) body(p *part, h int) string {
	text := ""
	for i, e := range p.kids {
		if i > 0 {
			text = lines(text, "Drop")
		}
		text = lines(text, c.expr(e, h))
	}
	return text
}

// exprs is expressions one behind the other, each value above those ahead of it.
func (c *coder) exprs(kids []*part, h int) string {
	text := ""
	for i, e := range kids {
		text = lines(text, c.expr(e, h+i))
	}
	return text
}

func (c *coder) expr(p *part, h int) string { return lines("Step 1", c.inner(p, h)) }

func (c *coder) inner(p *part, h int) string {
	n := len(p.kids)
	kids := c.exprs
	switch p.Kind {
	case impl.NdInt, impl.NdAtom, impl.NdStr:
		return "Push " + shownTerm(literalTerm(p))
	case impl.NdVar:
		return inS("Load %d", c.slot(p, p.S))
	case impl.NdRefer:
		return inS("Push #f%d{}", p.at)
	case impl.NdTuple:
		return lines(kids(p.kids, h), inS("Tuple %d", n))
	case impl.NdList:
		return lines(kids(p.kids, h), inS("%s %d", []string{"List", "Cons"}[p.N], n-p.N))
	case impl.NdMap:
		return lines(kids(p.kids, h), inS("Map %d %d", p.N, (n-p.N)/2))
	case impl.NdUn:
		return lines(kids(p.kids, h), "Unary "+p.S)
	case impl.NdSend:
		return lines(kids(p.kids, h), "Send")
	case impl.NdRemote:
		return lines(kids(p.kids, h), inS("Remote %d %s", n, p.S))
	case impl.NdApply:
		return lines(kids(p.kids, h), inS("Apply %d", n-1))
	case impl.NdCall:
		own := slices.IndexFunc(c.blocks, func(b *part) bool { return b.Kind == impl.NdFunc && b.S == p.S && b.N == n })
		if own >= 0 {
			return lines(kids(p.kids, h), inS("Call %d", own))
		}
		return lines(kids(p.kids, h), inS("Builtin %d %s", n, p.S))
	case impl.NdOp:
		if p.S == "andalso" || p.S == "orelse" {
			end := c.label()
			return lines(c.expr(p.kids[0], h), inS("Also %s %s", end, p.S), c.expr(p.kids[1], h), end+":")
		}
		return lines(kids(p.kids, h), "Operate "+p.S)
	case impl.NdBin:
		text := "Row"
		for _, seg := range p.kids {
			text = lines(text, c.put(seg, h+2))
		}
		return lines(text, "Whole")
	case impl.NdBegin:
		return c.body(p.kids[0], h)
	}
	return c.inner2(p, h)
}

func (c *coder) inner2(p *part, h int) string {
	n := len(p.kids)
	end := c.label()
	switch p.Kind {
	case impl.NdMatch:
		bad := c.label()
		return lines(c.expr(p.kids[1], h), "Dup", c.pattern(p.kids[0], bad, h+1), "Jump "+end, bad+":", "Fail 1 badmatch", end+":")
	case impl.NdFun:
		text := ""
		for _, name := range holds(c.all, p) {
			text = lines(text, inS("Load %d", c.slot(p, name)))
		}
		return lines(text, inS("Fun %d", slices.Index(c.blocks, p)))
	case impl.NdCase:
		return lines(c.expr(p.kids[0], h), c.clauses(p.kids[1:], []int{h}, h+1, end, ""), "Fail 1 case_clause", end+":")
	case impl.NdComp:
		if p.N == 0 {
			return lines("Push []", c.parts(p, 1, h, h+1))
		}
		return lines("Row", c.parts(p, 1, h, h+2), "Whole")
	case impl.NdTry:
		caught := c.label()
		catch := func(end string) string {
			return lines("Try "+caught, c.body(p.kids[0], h), "Ended", "Jump "+end, caught+":", c.clauses(p.kids[1:n-p.N], []int{h + 1, h}, h+2, end, ""), "Raise")
		}
		if p.N == 0 {
			return lines(catch(end), end+":")
		}
		last := c.label()
		return lines("Try "+last, catch(end), end+":", "Ended", "Push value", last+":", c.body(p.kids[n-1], h+2), "Drop", "Resume")
	}
	next, late := c.label(), c.label()
	wait, otherwise := "Push infinity", "Fail 0 no_after"
	if p.N == 1 {
		wait, otherwise = c.expr(p.kids[n-2], h), c.body(p.kids[n-1], h)
	}
	return lines(wait, "Mark", next+":", "Letter "+late, c.clauses(p.kids[:n-2*p.N], []int{h}, h+1, end, "Taken"), inS("Cut %d", h), "Jump "+next, late+":", otherwise, end+":")
}

func (c *coder) put(seg *part, h int) string {
	flags := seg.N
	text := c.expr(seg.kids[0], h)
	if seg.kids[1].Kind == impl.NdNone {
		flags += 8
	} else {
		text = lines(text, c.expr(seg.kids[1], h+1))
	}
	if seg.S == "int" && seg.kids[0].Kind == impl.NdStr {
		flags += 16
	}
	return lines(text, inS("Put %d %s", flags, seg.S))
}

// parts is the parts of a comprehension from its kid k on; what is gathered is at place q.
func (c *coder) parts(comp *part, k, q, h int) string {
	if k == len(comp.kids) {
		if comp.N == 0 {
			return lines(c.expr(comp.kids[0], h), inS("Add %d", q))
		}
		return lines("Row", c.put(comp.kids[0], h+2), inS("Join %d", q))
	}
	p := comp.kids[k]
	next, over, out := c.label(), c.label(), c.label()
	switch {
	case p.Kind != impl.NdGen:
		return lines(c.expr(p, h), "Filter "+out, c.parts(comp, k+1, q, h), out+":")
	case p.N == 0:
		return lines(c.expr(p.kids[1], h), "Gen 0", next+":", "Next "+out, c.pattern(p.kids[0], over, h+2), c.parts(comp, k+1, q, h+2), over+":", "Jump "+next, out+":")
	}
	return lines(c.expr(p.kids[1], h), "Gen 1", next+":", "More "+out, c.takes(p.kids[0].kids, over, h+2), inS("Took %s %d", over, h+2),
		c.parts(comp, k+1, q, h+2), "Jump "+next, over+":", inS("Cut %d", h), out+":")
}

// heldAgainstWords asks that Compile makes what the second reading makes, and that it is sound.
func heldAgainstWords(t *testing.T, what string, tree []impl.Node) impl.Code {
	t.Helper()
	code := compiled(t, tree)
	if want := compileByWords(tree); !sameCode(code, want) {
		t.Fatalf("%s\nbecomes, at %s\n%s", what, unlike(code, want), listing(code))
	}
	return code
}

// P7: what modules by chance become.
func TestCompileHeldAgainstWordsP7(t *testing.T) {
	t.Parallel()
	used := map[int]int{}
	for _, m := range spokenModules(t, 2500) {
		for _, n := range heldAgainstWords(t, textByForms(m), flat(m)).Ins {
			used[n.Op]++
		}
	}
	for op := 1; op < len(opRows); op++ {
		if used[op] < 20 {
			t.Error("too few of", opRows[op].name, used[op])
		}
	}
}

// P7: Compile makes nothing of what Lint refuses, whatever the fault.
func TestCompileOfWhatLintRefusesP7(t *testing.T) {
	refused := func(what string, tree []impl.Node) {
		t.Helper()
		if code, wrong := impl.Compile(tree); wrong != impl.ErrBad || !zeroCode(code) {
			t.Error(what, wrong, listing(code))
		}
	}
	for code, forms := range map[int]string{
		impl.ErrUndef: "export g/0. f() -> 1.", impl.ErrTwice: "f() -> 1. g() -> 1. f() -> 2.", impl.ErrPat: "f(X + 1) -> 1.", impl.ErrVar: "f() -> X.", impl.ErrGuard: "f(X) when self() -> 1.",
	} {
		tree := parsed(t, "module m. "+forms)
		if c, _ := impl.Lint(tree); c != code {
			t.Error(forms, c)
		}
		refused(forms, tree)
	}
	refused("no tree", nil)
	refused("half a tree", parsed(t, "module m. f() -> 1.")[:3])
	r := &speaker{chance: newChance(21)}
	seen := map[int]int{}
	for _, m := range spokenModules(t, 300) {
		tree := flat(r.spoilt(m))
		code, _ := impl.Lint(tree)
		seen[code]++
		if code != impl.OK {
			refused(textByForms(m), tree)
		}
	}
	if len(seen) < 5 {
		t.Error(seen)
	}
}

// P7: Compile leaves its tree as it is, and gives new memory.
func TestCompileLeavesItsTreeP7(t *testing.T) {
	tree := meant(t, `f(X) -> case X of [{1, "ab"}] -> fun() -> X end; #{a => Y} -> Y end.`)
	before := copied(tree)
	one, other := compiled(t, tree), compiled(t, tree)
	if !sameTree(tree, before) || !sameCode(one, other) {
		t.Error("changed")
	}
	for i := range one.Ins {
		for k := range one.Ins[i].V.Kids {
			one.Ins[i].V.Kids[k] = num(-7)
		}
		one.Ins[i].A = -1
	}
	one.Fns[0].Name = "z"
	if !sameCode(other, compileByWords(tree)) || !sameTree(tree, before) {
		t.Error("shared")
	}
}
