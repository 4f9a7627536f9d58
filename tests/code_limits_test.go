package tests

import (
	"fmt"
	"slices"
	"testing"

	"loop.example/g00019/impl"
)

// heldDeep is a fun that holds variables, in so many others that hold them, too.
func heldDeep(vars []nd, deep int) nd {
	e := nTuple(vars...)
	for range deep {
		e = nFun(nPlain(e))
	}
	return e
}

// longModule is a module whose code has so many instructions, at least 20.
func longModule(t *testing.T, count int) nd {
	t.Helper()
	var vars []nd
	for i := range 150 {
		vars = append(vars, nVar(fmt.Sprint("V", i)))
	}
	made := func(deep int, body ...nd) nd {
		clause := nClause(append(slices.Clone(vars), nGuard(), nBody(append(body, heldDeep(vars, deep))...))...)
		return nModule("m", nFunc("f", len(vars), clause))
	}
	// 2k and k loads in f, 2k in the last one, k in each of the others, and five beside those.
	deep := (count - 5*150 - 30) / 155
	left := count - (3*150 + 5) - (deep-1)*155 - (2*150 + 5)
	var body []nd
	for left%3 != 0 {
		body = append(body, nUn("-", nList(0))) // five with the drop behind it
		left -= 5
	}
	for range left / 3 {
		body = append(body, nList(0))
	}
	return made(deep, body...)
}

// P7: 20000 instructions, and one more.
func TestLongCodeP7(t *testing.T) {
	for _, n := range []int{19998, 19999, 20000} {
		tree := flat(longModule(t, n))
		if code := compiled(t, tree); len(code.Ins) != n {
			t.Error(n, len(code.Ins))
		}
	}
	for _, n := range []int{20001, 20002, 20003, 25000} {
		tree := flat(longModule(t, n))
		if code, _ := impl.Lint(tree); code != impl.OK {
			t.Fatal("Lint", code)
		}
		if code, wrong := impl.Compile(tree); wrong != impl.ErrFull || !zeroCode(code) {
			t.Error(n, wrong, len(code.Ins))
		}
	}
	// What Lint refuses comes first.
	m := longModule(t, 20001)
	m.kids = append(m.kids, m.kids[0])
	if code, wrong := impl.Compile(flat(m)); wrong != impl.ErrBad || !zeroCode(code) {
		t.Error(wrong)
	}
}

// wrapped puts an expression into another one, over and over, as long as the tree may be.
func wrapped(e nd, wrap func(e nd) nd) []impl.Node {
	for {
		more := wrap(e)
		if len(flat(moduleOf(more))) > impl.MaxTree {
			return flat(moduleOf(e))
		}
		e = more
	}
}

// P7: what becomes of the greatest trees is sound.
func TestCodeOfGreatTreesP7(t *testing.T) {
	t.Parallel()
	one := nInt(1)
	vars := []nd{nVar("A"), nVar("B"), nVar("C"), nVar("D")}
	wraps := map[string]func(e nd) nd{
		"tuples":          func(e nd) nd { return nTuple(one, e) },
		"lists with tail": func(e nd) nd { return nList(1, one, e) },
		"rows":            func(e nd) nd { return nBin(nSeg("int", 0, one, e)) },
		"tries":           func(e nd) nd { return nTry(1, nBody(e), nPlain(one, nAtom("error"), nVar("_")), nBody(one)) },
		"tries in after":  func(e nd) nd { return nTry(1, nBody(one), nPlain(one, nAtom("error"), nVar("_")), nBody(e)) },
		"tries in catch":  func(e nd) nd { return nTry(1, nBody(one), nPlain(e, nAtom("error"), nVar("_")), nBody(one)) },
		"cases":           func(e nd) nd { return nCase(one, nPlain(e, nVar("_"))) },
		"guards":          func(e nd) nd { return nCase(one, nClause(nVar("_"), nGuard(one, one), nBody(e))) },
		"receives":        func(e nd) nd { return nReceive(1, nPlain(e, nTuple(nVar("A"), one)), one, nBody(one)) },
		"loops":           func(e nd) nd { return nComp(0, e, nGen(0, nVar("_"), nList(0))) },
		"loops in loops": func(e nd) nd {
			return nComp(0, one, nGen(0, nVar("_"), e), nGen(0, nList(0, nVar("X")), one), nVar("X"))
		},
		"binaries": func(e nd) nd {
			return nComp(1, nSeg("binary", 0, e, nNone()), nGen(1, nBin(nSeg("int", 0, nVar("_"), nNone())), nBin()))
		},
		"funs": func(e nd) nd { return nFun(nPlain(e)) },
		"funs that hold": func(e nd) nd {
			return nBegin(nBody(nMatch(vars[0], one), nMatch(vars[1], one), nFun(nPlain(nTuple(e, vars[0], vars[1])))))
		},
		"matches":      func(e nd) nd { return nMatch(nVar("_"), e) },
		"either":       func(e nd) nd { return nOp("orelse", e, one) },
		"calls":        func(e nd) nd { return nApply(e, one, one) },
		"never behind": func(e nd) nd { return nTuple(nReceive(0), e) },
	}
	for what, wrap := range wraps {
		tree := wrapped(one, wrap)
		if code, at := impl.Lint(tree); code != impl.OK {
			t.Fatal(what, code, at)
		}
		code, wrong := impl.Compile(tree)
		if wrong != impl.OK {
			t.Error(what, wrong)
			continue
		}
		looked(t, what, code, impl.OK, 0)
	}
	// Wide ones: patterns, arguments, variables.
	var many []nd
	for i := range 990 {
		many = append(many, nVar(fmt.Sprint("V", i)))
	}
	for _, e := range []nd{
		nBegin(nBody(nMatch(nTuple(many...), nTuple()), nTuple(many...))),
		nBegin(nBody(nMatch(nList(1, many...), nTuple()), nList(1, many...))),
		nBegin(nBody(nMatch(nTuple(many[:900]...), nTuple()), heldDeep(many[:900], 10))),
	} {
		code := compiled(t, flat(moduleOf(e)))
		looked(t, "a wide one", code, impl.OK, 0)
	}
}
