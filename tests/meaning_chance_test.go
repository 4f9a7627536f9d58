package tests

import (
	"fmt"
	"slices"
	"strings"
	"testing"

	"loop.example/g00019/impl"
)

// sorts is what expressions by chance are mostly worth.
var sorts = []string{"int", "bool", "list", "tuple", "map", "bin", "fun", "atom"}

// speaker makes modules by chance whose variables are bound and whose expressions are mostly of the sort that is wanted.
type speaker struct {
	chance
	bound [][2]string // variables and what they are worth
	made  int
}

func (r *speaker) sort() string { return r.of(sorts...) }

// apart makes something; what it binds is not bound behind it.
func (r *speaker) apart(do func() nd) nd {
	bound := r.bound
	n := do()
	r.bound = slices.Clone(bound)
	return n
}

func (r *speaker) fresh(sort string) nd {
	// The names of what is bound no longer come again.
	name := r.of("A", "B", "C", "D", "E")
	if slices.ContainsFunc(r.bound, func(b [2]string) bool { return b[0] == name }) {
		r.made++
		name = fmt.Sprint(name, r.made)
	}
	r.bound = append(r.bound, [2]string{name, sort})
	return nVar(name)
}

// known is a bound variable of a sort, if there is one.
func (r *speaker) known(sort string) (nd, bool) {
	var names []string
	for _, b := range r.bound {
		if b[1] == sort {
			names = append(names, b[0])
		}
	}
	if len(names) == 0 {
		return nd{}, false
	}
	return nVar(r.of(names...)), true
}

func (r *speaker) small() nd { return nInt(r.Intn(5)) }

func (r *speaker) leaf(sort string) nd {
	if v, is := r.known(sort); is && r.Intn(3) > 0 {
		return v
	}
	switch sort {
	case "int":
		return []nd{r.small(), r.small(), nUn("-", r.small()), nInt(r.number())}[r.Intn(4)]
	case "bool":
		return nAtom(r.of("true", "false"))
	case "list":
		return []nd{nList(0), nStr(r.of("", "a", "bcd")), nList(0, r.small(), r.small())}[r.Intn(3)]
	case "tuple":
		return []nd{nTuple(), nTuple(r.small()), nTuple(nAtom("a"), r.small())}[r.Intn(3)]
	case "map":
		return []nd{nMap(0), nMap(0, nAtom("a"), r.small()), nMap(0, r.small(), nAtom("b"), nAtom("a"), r.small())}[r.Intn(3)]
	case "bin":
		seg := nSeg("int", 0, r.small(), nNone())
		return []nd{nBin(), nBin(seg), nBin(seg, seg, nSeg("int", 0, nStr("xyz"), nNone()))}[r.Intn(3)]
	case "fun":
		return []nd{nRefer("f", 2), nRefer("g", 1), nRefer("hd", 1), nRefer("length", 1)}[r.Intn(4)]
	}
	return nAtom(r.of("a", "b", "error", "throw"))
}

func (r *speaker) say(sort string, deep int) nd {
	if r.Intn(25) == 0 {
		sort = r.sort()
	}
	if deep <= 0 {
		return r.leaf(sort)
	}
	if r.Intn(3) == 0 {
		return r.block(sort, deep-1)
	}
	switch sort {
	case "int":
		return r.sayInt(deep - 1)
	case "bool":
		return r.sayBool(deep - 1)
	case "list":
		return r.sayList(deep - 1)
	case "tuple":
		return r.sayTuple(deep - 1)
	case "map":
		return r.sayMap(deep - 1)
	case "bin":
		return r.sayBin(deep - 1)
	case "fun":
		return r.sayFun(1+r.Intn(5)/4, deep-1)
	}
	return r.leaf(sort)
}

func (r *speaker) sayInt(d int) nd {
	switch r.Intn(8) {
	case 0, 1, 2:
		return nOp(r.of("+", "-", "*", "div", "rem"), r.say("int", d), r.say("int", d))
	case 3:
		return nUn("-", r.say("int", d))
	case 4:
		return nCall("length", r.say("list", d))
	case 5:
		return nCall(r.of("tuple_size", "hash"), r.say("tuple", d))
	case 6:
		return nCall("byte_size", r.say("bin", d))
	}
	return nCall("abs", r.say("int", d))
}

func (r *speaker) sayBool(d int) nd {
	sort := r.sort()
	switch r.Intn(6) {
	case 0, 1:
		return nOp(r.of("==", "/=", "=:=", "=/=", "<", "=<", ">", ">="), r.say(sort, d), r.say(sort, d))
	case 2:
		first := r.say("bool", d)
		return nOp(r.of("andalso", "orelse"), first, r.apart(func() nd { return r.say("bool", d) }))
	case 3:
		return nOp(r.of("and", "or"), r.say("bool", d), r.say("bool", d))
	case 4:
		return nUn("not", r.say("bool", d))
	}
	return nCall(r.of("is_integer", "is_list", "is_atom", "is_map", "is_function"), r.say(sort, d))
}

func (r *speaker) sayList(d int) nd {
	sort := r.sort()
	switch r.Intn(8) {
	case 0:
		return nList(0, r.say(sort, d), r.say(sort, d), r.say(sort, d))
	case 1:
		return nList(1, r.say(sort, d), r.say("list", d))
	case 2:
		return nOp("++", r.say("list", d), r.say("list", d))
	case 3, 4:
		return r.comprehension(0, d)
	case 5:
		return nCall(r.of("reverse", "tl"), r.say("list", d))
	case 6:
		return nCall(r.of("map_keys", "map_values"), r.say("map", d))
	}
	return nCall("binary_to_list", r.say("bin", d))
}

func (r *speaker) sayTuple(d int) nd {
	switch r.Intn(4) {
	case 0:
		return nCall("list_to_tuple", r.say("list", d))
	case 1:
		return nCall("setelement", nInt(1), r.say("tuple", d), r.say(r.sort(), d))
	}
	return nTuple(r.say(r.sort(), d), r.say(r.sort(), d))
}

func (r *speaker) sayMap(d int) nd {
	switch r.Intn(3) {
	case 0:
		return nMap(1, r.say("atom", 0), r.say(r.sort(), d), r.say("map", d))
	case 1:
		return nCall("map_remove", r.leaf("atom"), r.say("map", d))
	}
	return nMap(0, r.say("atom", 0), r.say(r.sort(), d), r.say(r.sort(), d), r.say("int", d))
}

func (r *speaker) sayBin(d int) nd {
	switch r.Intn(4) {
	case 0:
		return r.comprehension(1, d)
	case 1:
		return nCall(r.of("term_to_binary"), r.say(r.sort(), d))
	}
	return nBin(r.segment(d), r.segment(d))
}

// segment is a segment that makes whole bytes, most of the time.
func (r *speaker) segment(d int) nd {
	switch r.Intn(5) {
	case 0:
		return nSeg("binary", 0, r.say("bin", d), nNone())
	case 1:
		return nSeg("int", r.Intn(4), r.say("int", d), nInt([]int{8, 16, 24, 4, 0}[r.Intn(5)]))
	case 2:
		return nSeg("binary", 4*r.Intn(2), r.say("bin", d), nInt([]int{0, 1, 8}[r.Intn(3)]))
	}
	return nSeg("int", 0, r.say("int", d), nNone())
}

func (r *speaker) sayFun(number, d int) nd {
	return r.apart(func() nd {
		return nFun(r.clauses(number, 1+r.Intn(2), r.sort(), d)...)
	})
}

// block is an expression that has clauses or bodies, calls or binds.
func (r *speaker) block(sort string, d int) nd {
	switch r.Intn(10) {
	case 0, 1:
		e := r.say(sort, d)
		return nMatch(r.pattern(sort, 1), e)
	case 2, 3:
		e := r.say(r.sort(), d)
		return nCase(append([]nd{e}, r.apartAll(1, sort, d)...)...)
	case 4:
		return nBegin(r.body(sort, d))
	case 5, 6:
		return r.try(sort, d)
	case 7:
		return nApply(r.say("fun", d), r.say(r.sort(), d))
	case 8:
		return nCall(r.of("g", "g", "g", "throw", "error", "exit", "hd"), r.say(sort, d))
	}
	if r.Intn(5) == 0 {
		return []nd{nSend(r.say(sort, d), r.say(sort, d)), r.receive(sort, d), nCall("self"), nRemote("x:y", r.say(sort, d))}[r.Intn(4)]
	}
	return nRemote("m:f", r.say(sort, d), r.say("int", d))
}

func (r *speaker) apartAll(number int, sort string, d int) []nd {
	return r.apart(func() nd { return nTuple(r.clauses(number, 1+r.Intn(3), sort, d)...) }).kids
}

func (r *speaker) body(sort string, d int) nd {
	return r.apart(func() nd {
		if r.Intn(3) == 0 {
			return nBody(r.say(r.sort(), d), r.say(sort, d))
		}
		return nBody(r.say(sort, d))
	})
}

func (r *speaker) try(sort string, d int) nd {
	kids := []nd{r.body(sort, d)}
	for range 1 + r.Intn(2) {
		kids = append(kids, r.apart(func() nd {
			class := []nd{nAtom("error"), nAtom("throw"), nAtom("exit"), nVar("_")}[r.Intn(4)]
			if r.Intn(3) == 0 {
				class = r.fresh("atom")
			}
			p := r.pattern(r.sort(), 1)
			return nClause(class, p, r.guard(), r.body(sort, d))
		}))
	}
	n := r.Intn(2)
	if n == 1 {
		kids = append(kids, r.body("atom", d))
	}
	return nTry(n, kids...)
}

func (r *speaker) receive(sort string, d int) nd {
	n := r.Intn(2)
	var wait []nd
	if n == 1 {
		wait = []nd{r.apart(func() nd { return r.say("int", d) })}
	}
	var clauses []nd
	if r.Intn(3) > 0 {
		clauses = r.apartAll(1, sort, d)
	}
	if n == 1 {
		wait = append(wait, r.body(sort, d))
	}
	return nReceive(n, slices.Concat(clauses, wait)...)
}

// clauses is clauses of which the last one mostly takes all.
func (r *speaker) clauses(number, n int, sort string, d int) []nd {
	var row []nd
	for i := range n {
		row = append(row, r.apart(func() nd {
			var kids []nd
			guard := nGuard()
			for range number {
				if i == n-1 && r.Intn(6) > 0 {
					kids = append(kids, r.fresh(r.sort()))
				} else {
					kids = append(kids, r.pattern(r.sort(), 1))
				}
			}
			if i < n-1 || r.Intn(8) == 0 {
				guard = r.guard()
			}
			return nClause(append(kids, guard, r.body(sort, d))...)
		}))
	}
	return row
}

func (r *speaker) guard() nd {
	var row []nd
	for range r.Intn(3) {
		sort := r.of("int", "list", "tuple", "bool", "atom")
		row = append(row, []nd{
			nOp(r.of("==", "<", ">="), r.leaf("int"), r.leaf("int")), nCall(r.of("is_list", "is_integer", "is_atom", "is_tuple"), r.leaf(sort)),
			nOp(">=", nCall(r.of("length", "hd", "abs", "tuple_size"), r.leaf(sort)), r.leaf("int")), nOp("orelse", r.leaf("bool"), nUn("not", r.leaf("bool"))),
		}[r.Intn(4)])
	}
	return nGuard(row...)
}

func (r *speaker) pattern(sort string, deep int) nd {
	switch r.Intn(6) {
	case 0:
		return nVar("_")
	case 1, 2:
		return r.fresh(sort)
	case 3:
		if v, is := r.known(sort); is {
			return v
		}
	}
	if deep == 0 {
		return r.fresh(sort)
	}
	if r.Intn(12) == 0 {
		return nMatch(r.fresh(sort), r.pattern(sort, deep-1))
	}
	switch sort {
	case "list":
		if r.Intn(3) == 0 {
			return nList(0, r.pattern(r.sort(), deep-1))
		}
		return nList(1, r.pattern(r.sort(), deep-1), r.pattern("list", deep-1))
	case "tuple":
		return nTuple(r.pattern(r.sort(), deep-1), r.pattern(r.sort(), deep-1))
	case "map":
		return nMap(0, r.leafKey(), r.pattern(r.sort(), deep-1))
	case "bin":
		return r.bits()
	case "int", "bool", "atom":
		return r.leafKey()
	}
	return r.fresh(sort)
}

func (r *speaker) leafKey() nd {
	return []nd{nAtom("a"), nAtom("true"), r.small(), nUn("-", r.small()), nStr("a"), nTuple(r.small())}[r.Intn(6)]
}

func (r *speaker) bits() nd {
	size := nInt([]int{8, 4, 1, 16}[r.Intn(4)])
	if v, is := r.known("int"); is && r.Intn(3) == 0 {
		size = v
	}
	segs := []nd{nSeg("int", r.Intn(4), r.fresh("int"), size)}
	if r.Intn(4) == 0 {
		segs = append(segs, nSeg("int", 0, r.small(), nNone()))
	}
	if r.Intn(4) == 0 {
		segs = append(segs, nSeg("binary", 0, r.fresh("bin"), nInt(1)))
	}
	if r.Intn(2) == 0 {
		segs = append(segs, nSeg("binary", 4*r.Intn(2), r.fresh("bin"), nNone()))
	}
	return nBin(segs...)
}

func (r *speaker) comprehension(n, d int) nd {
	return r.apart(func() nd {
		var parts []nd
		for range 1 + r.Intn(2) {
			e := r.say([]string{"list", "bin"}[n], d)
			p := r.pattern(r.sort(), 1)
			if n == 1 {
				p = r.bits()
			}
			parts = append(parts, nGen(n, p, e))
			if r.Intn(3) == 0 {
				parts = append(parts, r.say("bool", d))
			}
		}
		first := r.say(r.sort(), d)
		if n == 1 {
			first = r.segment(d)
		}
		return nComp(n, append([]nd{first}, parts...)...)
	})
}

// spoken is a module m by chance: f of two arguments, g of one.
func (r *speaker) spoken(deep int) nd {
	r.bound, r.made = nil, 0
	f := nFunc("f", 2, r.clauses(2, 1+r.Intn(3), r.sort(), deep)...)
	g := nFunc("g", 1, r.clauses(1, 1+r.Intn(3), r.sort(), deep)...)
	return nModule("m", nExport("f", 2), f, g)
}

// spokenModules is such modules, those in which Lint finds nothing.
func spokenModules(t *testing.T, n int) []nd {
	r := &speaker{chance: newChance(4)}
	var row []nd
	faulty := 0
	for len(row) < n {
		m := r.spoken(1 + r.Intn(3))
		tree := flat(m)
		if len(tree) > 400 {
			continue
		}
		if code, at := impl.Lint(tree); code != impl.OK {
			if faulty++; faulty > 200+n {
				t.Fatal("most modules by chance have a fault", code, at, textByForms(m))
			}
			continue
		}
		row = append(row, m)
	}
	return row
}

// P5 and P6: what Lint passes, run with many arguments, answers as the second reading does, which panics where a variable is not bound.
func TestEvalHeldAgainstWordsP6(t *testing.T) {
	t.Parallel()
	r := newChance(5)
	classes := map[int]int{}
	steps := 0
	for _, m := range spokenModules(t, 3000) {
		tree := flat(m)
		if code, _ := lintByWays(tree); code != impl.OK {
			t.Fatal("Lint passes", textByForms(m), code)
		}
		for range 3 {
			args := []impl.Term{anyTerm(r.Rand, 2), anyTerm(r.Rand, 2)}
			for _, fuel := range []int{400, r.Intn(40)} {
				a, code := impl.Eval(tree, "f", args, fuel)
				b := evalByWords(tree, "f", args, fuel)
				if code != impl.OK || !sameAnswer(a, b) {
					t.Fatalf("%s\nof %v at %d: %s, %d used, code %d; by the words %s, %d used", textByForms(m), args, fuel, shown(a), a.Used, code, shown(b), b.Used)
				}
				classes[a.Class]++
				steps += a.Used
			}
		}
	}
	for class := impl.AnValue; class <= impl.AnFuel; class++ {
		if classes[class] < 40 {
			t.Error("too few answers of class", class, classes)
		}
	}
	t.Log(classes, steps)
}

// P6: with as much fuel as it used it answers the same, with less the fuel is out.
func TestEvalAtEachFuelP6(t *testing.T) {
	r := newChance(6)
	for _, m := range spokenModules(t, 300) {
		tree := flat(m)
		args := []impl.Term{anyTerm(r.Rand, 2), anyTerm(r.Rand, 2)}
		if a := evaluated(t, tree, args...); a.Class != impl.AnFuel {
			heldAtFuels(t, textByForms(m), tree, a, args...)
		}
	}
}

// spoilt is a module in which one node is another one: mostly a fault.
func (r *speaker) spoilt(m nd) nd {
	var all []*nd
	var walk func(n *nd)
	walk = func(n *nd) {
		n.kids = slices.Clone(n.kids)
		all = append(all, n)
		for i := range n.kids {
			walk(&n.kids[i])
		}
	}
	walk(&m)
	if r.Intn(20) == 0 {
		m.kids = append(m.kids, m.kids[len(m.kids)-1-r.Intn(2)])
	}
	n := all[1+r.Intn(len(all)-1)]
	names := []string{"A", "B", "C", "D", "E", "A1", "_", "X"}
	switch {
	case n.kind == impl.NdVar && r.Intn(2) == 0:
		n.s = r.of(names...)
	case n.kind == impl.NdCall || n.kind == impl.NdRefer || n.kind == impl.NdExport:
		n.s = r.of("h", "hd", "self", "f", "g")
	case n.kind == impl.NdRemote:
		n.s = r.of("m:g", "m:hd", "m:f", "x:f")
	case n.kind == impl.NdFunc:
		n.s = r.of("f", "g", "h")
	case n.kind >= impl.NdInt && n.kind <= impl.NdComp && n.kind != impl.NdSeg && n.kind != impl.NdNone:
		r.bound = [][2]string{{r.of(names...), "int"}, {r.of(names...), "list"}}
		*n = []nd{r.say(r.sort(), r.Intn(3)), nVar(r.of(names...)), *n, r.expr(2), nMatch(r.expr(1), nInt(1))}[r.Intn(5)]
	case n.kind == impl.NdBegin:
		n.kids[0].kids = append(n.kids[0].kids, nVar(r.of(names...)))
	case n.kind == impl.NdBody:
		n.kids = append(n.kids, nVar(r.of(names...)))
	}
	return m
}

// P5: the first fault of modules that are spoilt, and that some modules by chance have, is as the second reading tells it.
func TestLintHeldAgainstWaysP5(t *testing.T) {
	t.Parallel()
	r := &speaker{chance: newChance(7)}
	codes := map[int]int{}
	held := func(m nd) {
		tree := flat(m)
		if len(tree) > 300 || !impl.TreeOK(tree) {
			return
		}
		code, at := impl.Lint(tree)
		wantCode, want := lintByWays(tree)
		if code != wantCode || at != want {
			t.Errorf("Lint of %s\nis %d at %d, by the words %d at %d", strings.ReplaceAll(textByForms(m), "\n", " "), code, at, wantCode, want)
		}
		codes[code]++
	}
	for _, m := range spokenModules(t, 1500) {
		for range 6 {
			one := r.spoilt(m)
			held(one)
			held(r.spoilt(r.spoilt(one)))
		}
	}
	for _, m := range anyModules(1500) {
		held(m)
	}
	for _, code := range []int{impl.OK, impl.ErrUndef, impl.ErrTwice, impl.ErrPat, impl.ErrVar, impl.ErrGuard} {
		if codes[code] < 100 {
			t.Error("too few modules of code", code, codes)
		}
	}
	t.Log(codes)
}
