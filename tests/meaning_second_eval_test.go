package tests

import (
	"cmp"
	"maps"
	"slices"
	"strconv"
	"strings"

	"loop.example/g00019/impl"
)

// upward is what goes up.
type upward struct {
	class int
	v     impl.Term
}

// known is the values of what is bound; one that is made is never changed.
type known map[string]impl.Term

func (k known) with(name string, v impl.Term) known {
	more := maps.Clone(k)
	if name != "_" {
		more[name] = v
	}
	return more
}

// second is a second reading of 4.2 that hands on all that goes up as an answer.
type second struct {
	whole *part
	all   []*part
	fuel  int
	used  int
	held  map[int][]string
	life  *being // which process works it out, if one does
	mixed bool   // something in it was not pure
}

// evalByWords is Eval of a tree, a function and arguments that are right, with a fuel that is.
func evalByWords(tree []impl.Node, name string, args []impl.Term, fuel int) impl.Answer {
	s := &second{fuel: fuel, held: map[int][]string{}}
	s.whole, s.all = partsOfTree(tree)
	v, up := s.call(name, args)
	if up != nil {
		return impl.Answer{Class: up.class, V: up.v, Used: s.used}
	}
	return impl.Answer{V: v, Used: s.used}
}

func goesError(s string) *upward { return &upward{impl.AnError, atom(s)} }

func goesWith(s string, v impl.Term) *upward {
	if t, up := right(tuple(atom(s), v)); up == nil {
		return &upward{impl.AnError, t}
	}
	return goesError("system_limit")
}

func right(t impl.Term) (impl.Term, *upward) {
	if !impl.TermOK(t) {
		return impl.Term{}, goesError("system_limit")
	}
	return t, nil
}

func yes(is bool) impl.Term { return atom(strconv.FormatBool(is)) }

func isYes(t impl.Term) bool { return same(t, atom("true")) }

func isYesOrNo(t impl.Term) bool { return isYes(t) || same(t, atom("false")) }

// count is a step.
func (s *second) count() *upward {
	if s.life != nil {
		return s.life.count()
	}
	if s.used+1 > s.fuel {
		return &upward{class: impl.AnFuel}
	}
	s.used++
	return nil
}

func (s *second) call(name string, args []impl.Term) (impl.Term, *upward) {
	for _, p := range s.all {
		if p.Kind == impl.NdFunc && p.S == name && p.N == len(args) {
			return s.enter(p.kids, known{}, args)
		}
	}
	return s.there(name, args)
}

// there is what a function of 4.3 answers; of those of processes the process knows it.
func (s *second) there(name string, args []impl.Term) (impl.Term, *upward) {
	if up := s.count(); up != nil {
		return impl.Term{}, up
	}
	if isNamed(processNames, name, len(args)) {
		s.mixed = true
		if s.life != nil {
			return s.life.does(name, args)
		}
	}
	return thereByWords(name, args)
}

func (s *second) enter(clauses []*part, env known, args []impl.Term) (impl.Term, *upward) {
	if up := s.count(); up != nil {
		return impl.Term{}, up
	}
	return s.choose(clauses, env, args, goesError("function_clause"))
}

// choose is the value of the first of some clauses that fits, or else what goes up.
func (s *second) choose(clauses []*part, env known, values []impl.Term, otherwise *upward) (impl.Term, *upward) {
	for _, c := range clauses {
		inner, fits := s.fitRow(c.kids[:c.N], values, env)
		if !fits {
			continue
		}
		holds, up := s.guard(c.kids[c.N].kids, inner)
		if up != nil {
			return impl.Term{}, up
		}
		if holds {
			v, _, up := s.last(c.kids[c.N+1].kids, inner)
			return v, up
		}
	}
	return impl.Term{}, otherwise
}

func (s *second) guard(kids []*part, env known) (bool, *upward) {
	for _, kid := range kids {
		v, _, up := s.eval(kid, env)
		if up != nil && up.class == impl.AnFuel {
			return false, up
		}
		if up != nil || !isYes(v) {
			return false, nil
		}
	}
	return true, nil
}

// row is the values of parts that bind for one another, from the left.
func (s *second) row(kids []*part, env known) ([]impl.Term, known, *upward) {
	var row []impl.Term
	for _, kid := range kids {
		v, more, up := s.eval(kid, env)
		if up != nil {
			return nil, env, up
		}
		row, env = append(row, v), more
	}
	return row, env, nil
}

func (s *second) last(kids []*part, env known) (impl.Term, known, *upward) {
	row, env, up := s.row(kids, env)
	if up != nil {
		return impl.Term{}, env, up
	}
	return row[len(row)-1], env, nil
}

func (s *second) eval(p *part, env known) (impl.Term, known, *upward) {
	if up := s.count(); up != nil {
		return impl.Term{}, env, up
	}
	switch p.Kind {
	case impl.NdInt, impl.NdAtom, impl.NdStr:
		return literalTerm(p), env, nil
	case impl.NdVar:
		v, is := env[p.S]
		if !is {
			panic("not bound: " + p.S)
		}
		return v, env, nil
	case impl.NdFun, impl.NdRefer:
		v, up := s.fun(p, env)
		return v, env, up
	case impl.NdCase:
		v, env, up := s.eval(p.kids[0], env)
		if up == nil {
			v, up = s.choose(p.kids[1:], env, []impl.Term{v}, goesWith("case_clause", v))
		}
		return v, env, up
	case impl.NdReceive:
		s.mixed = true
		row, _, up := s.row(p.kids[len(p.kids)-2*p.N:len(p.kids)-p.N], env)
		if s.life == nil || up != nil {
			return impl.Term{}, env, cmp.Or(up, goesError("not_pure"))
		}
		v, up := s.life.receive(p, append(row, atom("infinity"))[0], env)
		return v, env, up
	case impl.NdTry:
		v, up := s.try(p, env)
		return v, env, up
	case impl.NdBegin:
		v, _, up := s.last(p.kids[0].kids, env)
		return v, env, up
	case impl.NdComp:
		v, up := s.comprehension(p, env)
		return v, env, up
	case impl.NdMatch:
		v, more, up := s.eval(p.kids[1], env)
		if up != nil {
			return v, env, up
		}
		if bound, fits := s.fit(p.kids[0], v, more); fits {
			return v, bound, nil
		}
		return v, env, goesWith("badmatch", v)
	case impl.NdBin:
		s, env, up := s.bits(p.kids, env)
		v, up := binOfDigits(s, up)
		return v, env, up
	case impl.NdOp:
		if p.S == "andalso" || p.S == "orelse" {
			return s.short(p, env)
		}
	}
	row, env, up := s.row(p.kids, env)
	if up != nil {
		return impl.Term{}, env, up
	}
	v, up := s.made(p, row)
	return v, env, up
}

// made is what a node makes of the values of all its kids.
func (s *second) made(p *part, row []impl.Term) (impl.Term, *upward) {
	last := len(row) - 1
	switch p.Kind {
	case impl.NdTuple:
		return right(tuple(row...))
	case impl.NdList:
		if p.N == 1 && row[last].Kind != impl.TmList {
			return impl.Term{}, goesError("badarg")
		}
		if p.N == 1 {
			row = slices.Concat(row[:last], row[last].Kids)
		}
		return right(list(row...))
	case impl.NdMap:
		if p.N == 1 && row[last].Kind != impl.TmMap {
			return impl.Term{}, goesWith("badmap", row[last])
		}
		if p.N == 1 {
			row = slices.Concat(row[last].Kids, row[:last])
		}
		return right(dictOf(row))
	case impl.NdUn:
		return unaryByWords(p.S, row[0])
	case impl.NdSend:
		s.mixed = true
		if s.life != nil {
			return s.life.send(row[0], row[1])
		}
		return impl.Term{}, goesError("not_pure")
	case impl.NdCall:
		return s.call(p.S, row)
	case impl.NdRemote:
		return s.remote(p, row)
	case impl.NdApply:
		return s.apply(row[0], row[1:])
	}
	return operatorByWords(p.S, row[0], row[1])
}

// dictOf is the map of keys and values in any order; the last one of a key counts.
func dictOf(row []impl.Term) impl.Term {
	var kids []impl.Term
	for i := 0; i < len(row); i += 2 {
		at := 0
		for at < len(kids) && orderByWords(kids[at], row[i]) < 0 {
			at += 2
		}
		if at < len(kids) && same(kids[at], row[i]) {
			kids[at+1] = row[i+1]
		} else {
			kids = slices.Insert(kids, at, row[i], row[i+1])
		}
	}
	return dict(kids...)
}

func (s *second) remote(p *part, args []impl.Term) (impl.Term, *upward) {
	name, own := strings.CutPrefix(p.S, s.whole.S+":")
	if !own {
		return impl.Term{}, goesError("undef")
	}
	if isExportedIn(s.all, name, len(args)) {
		return s.call(name, args)
	}
	return s.there(name, args)
}

func (s *second) heldNames(p *part) []string {
	names, is := s.held[p.at]
	if !is {
		names = holds(s.all, p)
		s.held[p.at] = names
	}
	return names
}

func (s *second) fun(p *part, env known) (impl.Term, *upward) {
	f := fun(p.at)
	if p.Kind == impl.NdFun {
		for _, name := range s.heldNames(p) {
			f.Kids = append(f.Kids, env[name])
		}
	}
	return right(f)
}

func (s *second) apply(f impl.Term, args []impl.Term) (impl.Term, *upward) {
	if f.Kind != impl.TmFun || f.N >= len(s.all) {
		return impl.Term{}, goesWith("badfun", f)
	}
	p := s.all[f.N]
	switch {
	case p.Kind == impl.NdRefer && len(f.Kids) == 0 && p.N == len(args):
		return s.call(p.S, args)
	case p.Kind == impl.NdRefer && len(f.Kids) == 0:
		return impl.Term{}, goesWith("badarity", f)
	case p.Kind != impl.NdFun || len(s.heldNames(p)) != len(f.Kids):
		return impl.Term{}, goesWith("badfun", f)
	case p.kids[0].N != len(args):
		return impl.Term{}, goesWith("badarity", f)
	}
	env := known{}
	for i, name := range s.heldNames(p) {
		env[name] = f.Kids[i]
	}
	return s.enter(p.kids, env, args)
}

func (s *second) short(p *part, env known) (impl.Term, known, *upward) {
	first, env, up := s.eval(p.kids[0], env)
	switch {
	case up != nil:
		return first, env, up
	case !isYesOrNo(first):
		return first, env, goesWith("badarg", first)
	case isYes(first) == (p.S == "orelse"):
		return first, env, nil
	}
	v, _, up := s.eval(p.kids[1], env)
	return v, env, up
}

func (s *second) try(p *part, env known) (impl.Term, *upward) {
	v, _, up := s.last(p.kids[0].kids, env)
	if up != nil && up.class != impl.AnFuel {
		class := []string{"", "error", "throw", "exit"}[up.class]
		v, up = s.choose(p.kids[1:len(p.kids)-p.N], env, []impl.Term{atom(class), up.v}, up)
	}
	if p.N == 1 && (up == nil || up.class != impl.AnFuel) {
		if _, _, more := s.last(p.kids[len(p.kids)-1].kids, env); more != nil {
			up = more
		}
	}
	return v, up
}

// bits is the bits of segments, digit by digit.
func (s *second) bits(segs []*part, env known) (string, known, *upward) {
	var made strings.Builder
	for _, seg := range segs {
		v, more, up := s.eval(seg.kids[0], env)
		size := impl.Term{}
		if up == nil && seg.kids[1].Kind != impl.NdNone {
			size, more, up = s.eval(seg.kids[1], more)
		}
		if up != nil {
			return "", env, up
		}
		env = more
		values := []impl.Term{v}
		if seg.S == "int" && seg.kids[0].Kind == impl.NdStr {
			values = v.Kids
		}
		if _, is := widthOf(seg, size); !is {
			return "", env, goesError("badarg")
		}
		for _, v := range values {
			piece, is := pieceByWords(seg, v, size)
			if !is || made.Len()+len(piece) > 32000 {
				return "", env, goesError("badarg")
			}
			made.WriteString(piece)
		}
	}
	return made.String(), env, nil
}

// widthOf is how many bits a segment of that size has, -1 when it takes all.
func widthOf(seg *part, size impl.Term) (int, bool) {
	units := map[string]int{"int0": 1, "int1": 1, "int2": 1, "int3": 1, "binary0": 8, "binary4": 1}[seg.S+strconv.Itoa(seg.N)]
	most := map[string]int{"int": 49, "binary": 32000}[seg.S]
	switch {
	case size.Kind == 0 && seg.S == "int":
		return 8, true
	case size.Kind == 0:
		return -1, true
	}
	return size.N * units, size.Kind == impl.TmInt && size.N >= 0 && size.N <= most
}

func pieceByWords(seg *part, v, size impl.Term) (string, bool) {
	width, _ := widthOf(seg, size)
	if seg.S == "int" {
		if v.Kind != impl.TmInt {
			return "", false
		}
		return putByWords(v.N, width, seg.N&2 != 0), true
	}
	all := digitsOfText(v.S)
	if v.Kind != impl.TmBin || width > len(all) {
		return "", false
	}
	if width < 0 {
		width = len(all)
	}
	return all[:width], true
}

func binOfDigits(s string, up *upward) (impl.Term, *upward) {
	if up == nil && len(s)%8 != 0 {
		up = goesError("badarg")
	}
	return bin(row(s).Bytes), up
}

func (s *second) comprehension(p *part, env known) (impl.Term, *upward) {
	var made []impl.Term
	var all string
	up := s.each(p.kids[1:], env, func(env known) *upward {
		if p.N == 1 {
			piece, _, up := s.bits(p.kids[:1], env)
			all += piece
			if up == nil && len(all) > 32000 {
				up = goesError("badarg")
			}
			return up
		}
		v, _, up := s.eval(p.kids[0], env)
		if up == nil {
			made = append(made, v)
			_, up = right(list(made...))
		}
		return up
	})
	if p.N == 1 {
		return binOfDigits(all, up)
	}
	return list(made...), up
}

func (s *second) each(kids []*part, env known, do func(known) *upward) *upward {
	if len(kids) == 0 {
		return do(env)
	}
	p, rest := kids[0], kids[1:]
	if p.Kind != impl.NdGen {
		v, env, up := s.eval(p, env)
		switch {
		case up != nil:
			return up
		case !isYesOrNo(v):
			return goesWith("bad_filter", v)
		case isYes(v):
			return s.each(rest, env, do)
		}
		return nil
	}
	v, env, up := s.eval(p.kids[1], env)
	if up != nil {
		return up
	}
	if v.Kind != []int{impl.TmList, impl.TmBin}[p.N] {
		return goesWith("bad_generator", v)
	}
	left := v.Kids
	digits := digitsOfText(v.S)
	for {
		if up := s.count(); up != nil {
			return up
		}
		if len(left) == 0 && len(digits) == 0 {
			return nil
		}
		var inner known
		var fits bool
		if p.N == 0 {
			inner, fits = s.fit(p.kids[0], left[0], env)
			left = left[1:]
		} else {
			var behind string
			inner, behind, fits = s.fitSegs(p.kids[0].kids, digits, env)
			if !fits || behind == digits {
				return nil
			}
			digits = behind
		}
		if fits {
			if up := s.each(rest, inner, do); up != nil {
				return up
			}
		}
	}
}

func (s *second) fitRow(kids []*part, row []impl.Term, env known) (known, bool) {
	for i, kid := range kids {
		more, fits := s.fit(kid, row[i], env)
		if !fits {
			return env, false
		}
		env = more
	}
	return env, true
}

func (s *second) fit(p *part, v impl.Term, env known) (known, bool) {
	switch p.Kind {
	case impl.NdVar:
		if bound, is := env[p.S]; is {
			return env, same(bound, v)
		}
		return env.with(p.S, v), true
	case impl.NdTuple:
		if v.Kind != impl.TmTuple || len(v.Kids) != len(p.kids) {
			return env, false
		}
		return s.fitRow(p.kids, v.Kids, env)
	case impl.NdList:
		if v.Kind != impl.TmList || len(v.Kids) < len(p.kids)-p.N || len(v.Kids) > len(p.kids) && p.N == 0 {
			return env, false
		}
		row := slices.Clone(v.Kids)
		if p.N == 1 {
			row = append(row[:len(p.kids)-1:len(p.kids)-1], list(row[len(p.kids)-1:]...))
		}
		return s.fitRow(p.kids, row, env)
	case impl.NdMap:
		return s.fitMap(p.kids, v, env)
	case impl.NdMatch:
		return s.fitRow(p.kids, []impl.Term{v, v}, env)
	case impl.NdBin:
		if v.Kind != impl.TmBin {
			return env, false
		}
		more, behind, fits := s.fitSegs(p.kids, digitsOfText(v.S), env)
		return more, fits && behind == ""
	}
	return env, same(literalTerm(p), v)
}

func (s *second) fitMap(kids []*part, v impl.Term, env known) (known, bool) {
	if v.Kind != impl.TmMap {
		return env, false
	}
	for pair := range slices.Chunk(kids, 2) {
		at := 0
		for at < len(v.Kids) && !same(v.Kids[at], literalTerm(pair[0])) {
			at += 2
		}
		if at == len(v.Kids) {
			return env, false
		}
		more, fits := s.fit(pair[1], v.Kids[at+1], env)
		if !fits {
			return env, false
		}
		env = more
	}
	return env, true
}

func (s *second) fitSegs(segs []*part, left string, env known) (known, string, bool) {
	for _, seg := range segs {
		size := impl.Term{}
		switch p := seg.kids[1]; p.Kind {
		case impl.NdInt:
			size = num(p.N)
		case impl.NdVar:
			size = env[p.S]
		}
		width, is := widthOf(seg, size)
		if width < 0 {
			width = len(left)
			is = is && (width%8 == 0 || seg.N == 4)
		}
		if !is || width > len(left) {
			return env, left, false
		}
		v := bin(row(left[:width]).Bytes)
		if seg.S == "int" {
			v = num(getByWords(left[:width], seg.N&1 != 0, seg.N&2 != 0))
		}
		more, fits := s.fit(seg.kids[0], v, env)
		if seg.kids[0].Kind == impl.NdStr {
			fits = v.S == seg.kids[0].S
		}
		if !fits {
			return env, left, false
		}
		env, left = more, left[width:]
	}
	return env, left, true
}
