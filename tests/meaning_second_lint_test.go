package tests

import (
	"slices"
	"strconv"
	"strings"

	"loop.example/g00019/impl"
)

// The functions of 4.3, with their numbers of arguments.
const (
	guardNames   = " is_integer/1 is_atom/1 is_tuple/1 is_list/1 is_map/1 is_binary/1 is_pid/1 is_ref/1 is_function/1 length/1 hd/1 tl/1 tuple_size/1 map_size/1 byte_size/1 abs/1 element/2 map_get/2 "
	plainNames   = " error/1 throw/1 exit/1 reverse/1 tuple_to_list/1 list_to_tuple/1 binary_to_list/1 list_to_binary/1 map_keys/1 map_values/1 map_remove/2 setelement/3 integer_to_list/1 term_to_binary/1 binary_to_term/1 hash/1 "
	processNames = " self/0 node/0 nodes/0 now/0 make_ref/0 spawn/1 spawn_link/1 spawn_monitor/1 link/1 unlink/1 monitor/1 demonitor/1 trap_exit/1 priority/1 unregister/1 whereis/1 is_alive/1 cancel_timer/1 say/1 tab_size/1 exit/2 register/2 tab_new/2 tab_put/2 tab_get/2 tab_drop/2 tab_select/2 send_after/3 "
)

func isNamed(names, name string, number int) bool {
	return strings.Contains(names, " "+name+"/"+strconv.Itoa(number)+" ")
}

// part is a node with where it stands and what it is asked to be there.
type part struct {
	impl.Node
	at   int
	up   *part
	nth  int // which kid of up it is
	role string
	kids []*part
}

// partsOfTree is the whole of a tree that is right, and each of its nodes by its place.
func partsOfTree(tree []impl.Node) (*part, []*part) {
	all := make([]*part, len(tree))
	for i, n := range tree {
		all[i] = &part{Node: n, at: i}
	}
	for i, n := range tree {
		for k, kid := range n.Kids {
			all[kid].up, all[kid].nth = all[i], k
			all[i].kids = append(all[i].kids, all[kid])
		}
	}
	for _, p := range slices.Backward(all) {
		p.role = roleOf(p)
	}
	return all[len(all)-1], all
}

func roleOf(p *part) string {
	u := p.up
	switch {
	case u == nil || u.Kind == impl.NdModule:
		return "form"
	case u.Kind == impl.NdClause && p.nth < u.N:
		return "pattern"
	case p.Kind == impl.NdGuard:
		return "guard"
	case p.Kind == impl.NdClause || p.Kind == impl.NdBody:
		return "expr"
	case u.role == "expr" && (u.Kind == impl.NdMatch || u.Kind == impl.NdGen) && p.nth == 0:
		return "pattern"
	case u.role == "pattern" && u.Kind == impl.NdMap && p.nth%2 == 0:
		return "key"
	case u.role == "pattern" && u.Kind == impl.NdSeg:
		return []string{"part", "size"}[p.nth]
	}
	return u.role
}

// turn is when a node's turn comes among its up's kids.
func turn(p *part) int {
	u := p.up
	switch {
	case u.role == "expr" && (u.Kind == impl.NdMatch || u.Kind == impl.NdGen):
		return 1 - p.nth
	case u.Kind == impl.NdComp && p.nth == 0:
		return len(u.kids)
	case isAfterTime(p):
		return -1
	}
	return p.nth
}

// isAfterTime is whether a node is what a receive with after waits for.
func isAfterTime(p *part) bool {
	return p.up.Kind == impl.NdReceive && p.up.N == 1 && p.nth == len(p.up.kids)-2
}

// way is the turns from the whole down to a node: nodes are met in the order of their ways.
func way(p *part) []int {
	if p.up == nil {
		return nil
	}
	return append(way(p.up), turn(p))
}

// closes is whether what is bound in a node is not bound behind it.
func closes(p *part) bool {
	switch p.Kind {
	case impl.NdClause, impl.NdBody, impl.NdFun, impl.NdComp, impl.NdBegin, impl.NdTry, impl.NdReceive:
		return true
	}
	short := p.up.Kind == impl.NdOp && (p.up.S == "andalso" || p.up.S == "orelse")
	return short && p.nth == 1 || isAfterTime(p)
}

func isWithin(p, outer *part) bool {
	for ; p != nil; p = p.up {
		if p == outer {
			return true
		}
	}
	return false
}

// sees is whether what is bound at one node is bound at another.
func sees(p, binds *part) bool {
	if slices.Compare(way(binds), way(p)) >= 0 {
		return false
	}
	for ; !isWithin(p, binds); binds = binds.up {
		if closes(binds) {
			return false
		}
	}
	return binds.Kind != impl.NdSeg || binds.role != "pattern" // a size is asked for ahead of the value
}

func isBinding(p *part) bool {
	return p.Kind == impl.NdVar && p.S != "_" && (p.role == "pattern" || p.role == "part")
}

// isBound is whether a variable is bound where a node stands.
func isBound(all []*part, p *part, name string) bool {
	return slices.ContainsFunc(all, func(b *part) bool { return isBinding(b) && b.S == name && sees(p, b) })
}

// holds is the variables that are bound at a node and stand in it, ascending.
func holds(all []*part, p *part) []string {
	var names []string
	for _, v := range all {
		if v.Kind == impl.NdVar && isWithin(v, p) && !slices.Contains(names, v.S) && isBound(all, p, v.S) {
			names = append(names, v.S)
		}
	}
	slices.Sort(names)
	return names
}

func isDefinedIn(all []*part, name string, number int) bool {
	return slices.ContainsFunc(all, func(p *part) bool { return p.Kind == impl.NdFunc && p.S == name && p.N == number })
}

func isExportedIn(all []*part, name string, number int) bool {
	return slices.ContainsFunc(all, func(p *part) bool { return p.Kind == impl.NdExport && p.S == name && p.N == number })
}

func isMinusInt(p *part) bool {
	return p.Kind == impl.NdUn && p.S == "-" && p.kids[0].Kind == impl.NdInt
}

func isLiteralPart(p *part) bool {
	return p.Kind == impl.NdInt || p.Kind == impl.NdAtom || p.Kind == impl.NdStr || isMinusInt(p)
}

// faultOf is the code of the fault that a node is, or OK.
func faultOf(all []*part, p *part) int {
	codes := map[string]func([]*part, *part) int{"form": formFault, "pattern": patternFault, "key": keyFault, "part": segmentFault, "size": segmentFault, "guard": guardFault, "expr": exprFault}
	return codes[p.role](all, p)
}

func formFault(all []*part, p *part) int {
	switch {
	case p.Kind == impl.NdExport && !isDefinedIn(all, p.S, p.N):
		return impl.ErrUndef
	case p.Kind == impl.NdFunc && isDefinedIn(all[:p.at], p.S, p.N):
		return impl.ErrTwice
	}
	return impl.OK
}

func patternFault(all []*part, p *part) int {
	if p.up.Kind == impl.NdGen && p.up.N == 1 && p.Kind != impl.NdBin {
		return impl.ErrPat
	}
	switch p.Kind {
	case impl.NdVar, impl.NdTuple, impl.NdList, impl.NdMatch, impl.NdBin, impl.NdSeg:
		return impl.OK
	}
	if isLiteralPart(p) || p.Kind == impl.NdMap && p.N == 0 {
		return impl.OK
	}
	return impl.ErrPat
}

func keyFault(all []*part, p *part) int {
	if !isKeyPart(p) || p.up.role == "pattern" && areKeyParts(all, p) && !impl.TermOK(literalTerm(p)) {
		return impl.ErrPat
	}
	return impl.OK
}

func isKeyPart(p *part) bool {
	return isLiteralPart(p) || p.Kind == impl.NdTuple || p.Kind == impl.NdList && p.N == 0
}

func areKeyParts(all []*part, p *part) bool {
	return !slices.ContainsFunc(all, func(q *part) bool { return isWithin(q, p) && !isKeyPart(q) })
}

// literalTerm is the term that literals, tuples and lists of them say.
func literalTerm(p *part) impl.Term {
	switch p.Kind {
	case impl.NdInt:
		return num(p.N)
	case impl.NdUn:
		return num(-p.kids[0].N)
	case impl.NdAtom:
		return atom(p.S)
	case impl.NdStr:
		return bytesList(p.S)
	}
	var kids []impl.Term
	for _, kid := range p.kids {
		kids = append(kids, literalTerm(kid))
	}
	if p.Kind == impl.NdTuple {
		return tuple(kids...)
	}
	return list(kids...)
}

func bytesList(s string) impl.Term {
	var kids []impl.Term
	for i := range len(s) {
		kids = append(kids, num(int(s[i])))
	}
	return list(kids...)
}

// segmentFault is of a segment's value and its size, in a pattern.
func segmentFault(all []*part, p *part) int {
	seg := p.up
	last := seg.nth == len(seg.up.kids)-1
	switch {
	case p.role == "part" && (p.Kind == impl.NdVar || p.Kind == impl.NdInt && seg.S == "int" || p.Kind == impl.NdStr && seg.S == "binary"):
		return impl.OK
	case p.role == "size" && p.Kind == impl.NdVar && !isBound(all, p, p.S):
		return impl.ErrVar
	case p.role == "size" && (p.Kind == impl.NdVar || p.Kind == impl.NdInt || p.Kind == impl.NdNone && (seg.S == "int" || last)):
		return impl.OK
	}
	return impl.ErrPat
}

func guardFault(all []*part, p *part) int {
	switch p.Kind {
	case impl.NdGuard, impl.NdInt, impl.NdAtom, impl.NdStr, impl.NdTuple, impl.NdList, impl.NdOp, impl.NdUn:
		return impl.OK
	case impl.NdVar:
		return exprFault(all, p)
	case impl.NdCall:
		if isNamed(guardNames, p.S, len(p.kids)) && !isDefinedIn(all, p.S, len(p.kids)) {
			return impl.OK
		}
	}
	return impl.ErrGuard
}

func exprFault(all []*part, p *part) int {
	there := guardNames + plainNames + processNames
	is := true
	switch p.Kind {
	case impl.NdVar:
		if !isBound(all, p, p.S) {
			return impl.ErrVar
		}
	case impl.NdCall:
		is = isNamed(there, p.S, len(p.kids)) || isDefinedIn(all, p.S, len(p.kids))
	case impl.NdRefer:
		is = isNamed(there, p.S, p.N) || isDefinedIn(all, p.S, p.N)
	case impl.NdRemote:
		name, own := strings.CutPrefix(p.S, all[len(all)-1].S+":")
		is = !own || isNamed(there, name, len(p.kids)) || isExportedIn(all, name, len(p.kids))
	}
	if !is {
		return impl.ErrUndef
	}
	return impl.OK
}

// lintByWays is Lint of a tree that is right: of all faults the one whose way is the first.
func lintByWays(tree []impl.Node) (int, int) {
	_, all := partsOfTree(tree)
	code, at := impl.OK, 0
	for _, p := range all {
		c := faultOf(all, p)
		if c != impl.OK && (code == impl.OK || slices.Compare(way(p), way(all[at])) < 0) {
			code, at = c, p.at
		}
	}
	return code, at
}
