package tests

import (
	"slices"
	"strconv"
	"strings"

	"loop.example/g00019/impl"
)

// pairedOps and loneOps is the Ops of conditions, with what the language says for them.
var pairedOps = map[string]string{
	"eq": "==", "ne": "/=", "lt": "<", "le": "=<", "gt": ">", "ge": ">=", "plus": "+", "minus": "-", "times": "*", "both": "and", "either": "or", "elem": "element",
}

var loneOps = map[string]string{
	"no": "not", "is_integer": "is_integer", "is_atom": "is_atom", "is_tuple": "is_tuple", "is_list": "is_list",
	"len": "length", "width": "tuple_size", "first": "hd", "rest": "tl", "amount": "abs",
}

// varByWords is the N of a {v, N}; -1 of all else.
func varByWords(x impl.Term) int {
	if x.Kind == impl.TmTuple && len(x.Kids) == 2 && same(x.Kids[0], atom("v")) && x.Kids[1].Kind == impl.TmInt && between(x.Kids[1].N, 0, 20) {
		return x.Kids[1].N
	}
	return -1
}

// itselfByWords tells whether a term stands for itself in a question.
func itselfByWords(x impl.Term) bool {
	return x.Kind == impl.TmInt || x.Kind == impl.TmAtom && isAtomByWords(x.S)
}

// headByWords tells whether a term may stand in a Head; the variables in it stand in vars then.
func headByWords(x impl.Term, vars map[int]bool) bool {
	if n := varByWords(x); n >= 0 {
		vars[n] = true
		return true
	}
	if x.Kind != impl.TmTuple && x.Kind != impl.TmList {
		return itselfByWords(x)
	}
	return !slices.ContainsFunc(x.Kids, func(x impl.Term) bool { return !headByWords(x, vars) })
}

func condByWords(x impl.Term, vars map[int]bool) bool {
	if n := varByWords(x); n >= 0 {
		return n > 0 && vars[n]
	}
	if x.Kind != impl.TmTuple {
		return itselfByWords(x)
	}
	if len(x.Kids) == 0 || x.Kids[0].Kind != impl.TmAtom {
		return false
	}
	_, paired := pairedOps[x.Kids[0].S]
	_, lone := loneOps[x.Kids[0].S]
	if !(paired && len(x.Kids) == 3) && !(lone && len(x.Kids) == 2) {
		return false
	}
	return !slices.ContainsFunc(x.Kids[1:], func(x impl.Term) bool { return !condByWords(x, vars) })
}

func bodyByWords(x impl.Term, vars map[int]bool) bool {
	parts := x
	switch {
	case varByWords(x) >= 0:
		return varByWords(x) > 0 && vars[varByWords(x)]
	case same(x, tuple(atom("row"))):
		return true
	case x.Kind == impl.TmTuple:
		if len(x.Kids) != 2 || !same(x.Kids[0], atom("tup")) || x.Kids[1].Kind != impl.TmList {
			return false
		}
		parts = x.Kids[1]
	case x.Kind != impl.TmList:
		return itselfByWords(x)
	}
	return !slices.ContainsFunc(parts.Kids, func(x impl.Term) bool { return !bodyByWords(x, vars) })
}

func specOKByWords(spec impl.Term) bool {
	if !impl.TermOK(spec) || spec.Kind != impl.TmList || !between(len(spec.Kids), 1, 20) {
		return false
	}
	for _, c := range spec.Kids {
		vars := map[int]bool{}
		if c.Kind != impl.TmTuple || len(c.Kids) != 3 || c.Kids[0].Kind != impl.TmTuple || varByWords(c.Kids[0]) >= 0 || !headByWords(c.Kids[0], vars) || c.Kids[1].Kind != impl.TmList {
			return false
		}
		for _, cond := range c.Kids[1].Kids {
			if !condByWords(cond, vars) {
				return false
			}
		}
		if !bodyByWords(c.Kids[2], vars) {
			return false
		}
	}
	return true
}

// bindings is what variables stand for.
type bindings map[int]impl.Term

func (b bindings) fit(h, x impl.Term) bool {
	switch n := varByWords(h); {
	case n == 0:
		return true
	case n > 0:
		v, is := b[n]
		if !is {
			b[n] = x
		}
		return !is || same(v, x)
	case h.Kind != impl.TmTuple && h.Kind != impl.TmList:
		return same(h, x)
	}
	if h.Kind != x.Kind || len(h.Kids) != len(x.Kids) {
		return false
	}
	for i := range h.Kids {
		if !b.fit(h.Kids[i], x.Kids[i]) {
			return false
		}
	}
	return true
}

// cond is the value of a condition, or what goes up.
func (b bindings) cond(c impl.Term) (impl.Term, *upward) {
	if n := varByWords(c); n > 0 {
		return b[n], nil
	}
	if c.Kind != impl.TmTuple {
		return c, nil
	}
	var row []impl.Term
	for _, part := range c.Kids[1:] {
		v, up := b.cond(part)
		if up != nil {
			return v, up
		}
		row = append(row, v)
	}
	op := c.Kids[0].S
	if said, lone := loneOps[op]; lone && op != "no" {
		return thereByWords(said, row)
	}
	switch op {
	case "elem":
		return thereByWords("element", row)
	case "no":
		return unaryByWords("not", row[0])
	}
	return operatorByWords(pairedOps[op], row[0], row[1])
}

func (b bindings) body(x, row impl.Term) impl.Term {
	if n := varByWords(x); n > 0 {
		return b[n]
	}
	made := impl.Term{Kind: x.Kind}
	parts := x.Kids
	switch {
	case same(x, tuple(atom("row"))):
		return row
	case x.Kind == impl.TmTuple:
		parts = x.Kids[1].Kids
	case x.Kind != impl.TmList:
		return x
	}
	for _, part := range parts {
		made.Kids = append(made.Kids, b.body(part, row))
	}
	return made
}

// clauseByWords is the number of the clause that counts, from 0 on, and what it says; -1 when none does.
func clauseByWords(spec, row impl.Term) (int, impl.Term) {
clauses:
	for i, c := range spec.Kids {
		b := bindings{}
		if !b.fit(c.Kids[0], row) {
			continue
		}
		for _, cond := range c.Kids[1].Kids {
			if v, up := b.cond(cond); up != nil || !isYes(v) {
				continue clauses
			}
		}
		return i, b.body(c.Kids[2], row)
	}
	return -1, impl.Term{}
}

func specRunByWords(spec, row impl.Term) (impl.Term, bool, int) {
	if !specOKByWords(spec) || !impl.TermOK(row) {
		return impl.Term{}, false, impl.ErrBad
	}
	i, v := clauseByWords(spec, row)
	switch {
	case i < 0:
		return impl.Term{}, false, impl.OK
	case !impl.TermOK(v):
		return impl.Term{}, false, impl.ErrFull
	}
	return v, true, impl.OK
}

// specText writes the module of a question down, and counts its nodes.
type specText struct {
	nodes int
}

func (s *specText) node(text string) string {
	s.nodes++
	return text
}

func (s *specText) each(parts []impl.Term, of func(impl.Term) string) string {
	var texts []string
	for _, x := range parts {
		texts = append(texts, of(x))
	}
	return strings.Join(texts, ", ")
}

func (s *specText) itself(x impl.Term) string {
	switch {
	case x.Kind == impl.TmAtom:
		return s.node(x.S)
	case x.N < 0:
		s.nodes++
		return s.node("(- " + strconv.Itoa(-x.N) + ")")
	}
	return s.node(strconv.Itoa(x.N))
}

func (s *specText) head(x impl.Term) string {
	switch n := varByWords(x); {
	case n == 0:
		return s.node("_")
	case n > 0:
		return s.node("V" + strconv.Itoa(n))
	case x.Kind == impl.TmTuple:
		return s.node("{") + s.each(x.Kids, s.head) + "}"
	case x.Kind == impl.TmList:
		return s.node("[") + s.each(x.Kids, s.head) + "]"
	}
	return s.itself(x)
}

func (s *specText) cond(x impl.Term) string {
	if n := varByWords(x); n > 0 {
		return s.node("V" + strconv.Itoa(n))
	}
	if x.Kind != impl.TmTuple {
		return s.itself(x)
	}
	s.nodes++
	op, parts := x.Kids[0].S, x.Kids[1:]
	switch {
	case op == "no":
		return "(not " + s.cond(parts[0]) + ")"
	case op == "elem":
		return "element(" + s.each(parts, s.cond) + ")"
	case len(parts) == 1:
		return loneOps[op] + "(" + s.cond(parts[0]) + ")"
	}
	return "(" + s.cond(parts[0]) + " " + pairedOps[op] + " " + s.cond(parts[1]) + ")"
}

func (s *specText) body(x impl.Term) string {
	switch n := varByWords(x); {
	case n > 0:
		return s.node("V" + strconv.Itoa(n))
	case same(x, tuple(atom("row"))):
		return s.node("V0")
	case x.Kind == impl.TmTuple:
		return s.node("{") + s.each(x.Kids[1].Kids, s.body) + "}"
	case x.Kind == impl.TmList:
		return s.node("[") + s.each(x.Kids, s.body) + "]"
	}
	return s.itself(x)
}

func (s *specText) clause(c impl.Term) string {
	s.nodes += 7 // the clause, V0 and =, the guard, the body, its tuple and yes
	guard := s.each(c.Kids[1].Kids, s.cond)
	if guard != "" {
		guard = " when " + guard
	}
	return "m((V0 = " + s.head(c.Kids[0]) + "))" + guard + " -> {yes, " + s.body(c.Kids[2]) + "}; "
}

func specModuleByWords(spec impl.Term) (string, int) {
	if !specOKByWords(spec) {
		return "", impl.ErrBad
	}
	s := specText{nodes: 3 + 5} // the module, export and function; the last clause
	text := "module spec.\nexport m/1.\n"
	for _, c := range spec.Kids {
		text += s.clause(c)
	}
	text += "m(_) -> no."
	if len(text) > 8000 || s.nodes > 2000 {
		return "", impl.ErrFull
	}
	return text, impl.OK
}

func isRowByWords(x impl.Term) bool {
	return impl.TermOK(x) && x.Kind == impl.TmTuple && len(x.Kids) > 0
}

func tabOKByWords(t impl.Table) bool {
	if !between(t.Type, 1, 3) || len(t.Rows) > 500 || slices.ContainsFunc(t.Rows, func(x impl.Term) bool { return !isRowByWords(x) }) {
		return false
	}
	for i, a := range t.Rows {
		for k, b := range t.Rows[:i] {
			key := orderByWords(b.Kids[0], a.Kids[0])
			if k == i-1 && key > 0 || t.Type == 1 && key == 0 || t.Type == 2 && key == 0 && same(a, b) {
				return false
			}
		}
	}
	return true
}

// withKey is the rows with a key, and those without it.
func withKey(rows []impl.Term, key impl.Term) (those, others []impl.Term) {
	for _, x := range rows {
		if same(x.Kids[0], key) {
			those = append(those, x)
		} else {
			others = append(others, x)
		}
	}
	return those, others
}

func tabPutByWords(t impl.Table, row impl.Term) (impl.Table, int) {
	if !tabOKByWords(t) || !isRowByWords(row) {
		return impl.Table{}, impl.ErrBad
	}
	those, others := withKey(t.Rows, row.Kids[0])
	switch {
	case t.Type == 1:
		those = []impl.Term{row}
	case t.Type == 3 || !slices.ContainsFunc(those, func(x impl.Term) bool { return same(x, row) }):
		those = append(those, row)
	}
	at := 0
	for at < len(others) && orderByWords(others[at].Kids[0], row.Kids[0]) < 0 {
		at++
	}
	rows := slices.Concat(others[:at], those, others[at:])
	if len(rows) > 500 {
		return impl.Table{}, impl.ErrFull
	}
	return impl.Table{Type: t.Type, Rows: rows}, impl.OK
}

func tabGetByWords(t impl.Table, key impl.Term) ([]impl.Term, int) {
	if !tabOKByWords(t) || !impl.TermOK(key) {
		return nil, impl.ErrBad
	}
	those, _ := withKey(t.Rows, key)
	return those, impl.OK
}

func tabDropByWords(t impl.Table, key impl.Term) (impl.Table, int) {
	if !tabOKByWords(t) || !impl.TermOK(key) {
		return impl.Table{}, impl.ErrBad
	}
	_, others := withKey(t.Rows, key)
	return impl.Table{Type: t.Type, Rows: others}, impl.OK
}

func tabSelectByWords(t impl.Table, spec impl.Term) ([]impl.Term, int) {
	if !tabOKByWords(t) || !specOKByWords(spec) {
		return nil, impl.ErrBad
	}
	var told []impl.Term
	for _, x := range t.Rows {
		v, says, code := specRunByWords(spec, x)
		if code != impl.OK {
			return nil, code
		}
		if says {
			told = append(told, v)
		}
	}
	return told, impl.OK
}

func tabPruneByWords(t impl.Table, spec impl.Term) (impl.Table, int, int) {
	if !tabOKByWords(t) || !specOKByWords(spec) {
		return impl.Table{}, 0, impl.ErrBad
	}
	left := impl.Table{Type: t.Type}
	for _, x := range t.Rows {
		if v, _, _ := specRunByWords(spec, x); !isYes(v) {
			left.Rows = append(left.Rows, x)
		}
	}
	return left, len(t.Rows) - len(left.Rows), impl.OK
}
