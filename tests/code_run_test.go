package tests

import (
	"slices"
	"strings"
	"testing"

	"loop.example/g00019/impl"
)

// runner runs sound code as 5.1 and 6 say, by their words: a second reading of Run, against which Eval is held, too.
type runner struct {
	shelf  *shelf // where it finds code
	life   *being // which process runs it, if one does
	fuel   int
	used   int
	frames []*framed
	begun  []impl.Call // all blocks that were begun
}

// shelf is all code that was ever loaded, by its number.
type shelf []*shelved

type shelved struct {
	impl.Code
	number int
	is     string // current, old or gone
}

// runByWords is what a block with a Name answers, and the first 200 blocks that it begins.
func runByWords(code impl.Code, name string, args []impl.Term, fuel int) (impl.Answer, []impl.Call) {
	c := &shelved{Code: code, is: "current"}
	r := &runner{shelf: &shelf{c}, fuel: fuel}
	v, up := r.block(c, c.named(name, len(args)), nil, args)
	calls := r.begun[:min(len(r.begun), 200)]
	if up != nil {
		return impl.Answer{Class: up.class, V: up.v, Used: r.used}, calls
	}
	return impl.Answer{V: v, Used: r.used}, calls
}

// module is the code of a module that is current or old.
func (s *shelf) module(name, is string) *shelved {
	i := slices.IndexFunc(*s, func(c *shelved) bool { return c.Name == name && c.is == is })
	if i < 0 {
		return nil
	}
	return (*s)[i]
}

// of is the code of which a Fun is, if that is there, and the place that the Fun tells.
func (s *shelf) of(f impl.Term) (*shelved, int) {
	for _, c := range *s {
		if f.Kind == impl.TmFun && f.N >= 2000*c.number && f.N < 2000*c.number+2000 && c.is != "gone" {
			return c, f.N - 2000*c.number
		}
	}
	return nil, 0
}

// named is the number of the block with that Name and Arity, -1 without one.
func (c *shelved) named(name string, arity int) int {
	return slices.IndexFunc(c.Fns, func(f impl.CodeFn) bool { return f.Name != "" && f.Name == name && f.Arity == arity })
}

// made is the Fun that code makes, which tells whose it is.
func (c *shelved) made(f impl.Term) impl.Term {
	f.N += 2000 * c.number
	return f
}

func (r *runner) count(n int) *upward {
	if r.life != nil {
		return r.life.steps(n)
	}
	if r.used+n > r.fuel {
		r.used = r.fuel
		return &upward{class: impl.AnFuel}
	}
	r.used += n
	return nil
}

// framed is a frame: the code that it runs, its slots, its stack, its handlers, and where it is.
type framed struct {
	*runner
	code     *shelved
	number   int // of its block
	slots    []impl.Term
	stack    []impl.Term
	handlers []handlerByWords
	at       int
	born     bool // it is among the frames
	ended    bool
}

func (r *runner) block(c *shelved, k int, held, args []impl.Term) (impl.Term, *upward) {
	return r.frame(c, k, held, args).run()
}

func (r *runner) frame(c *shelved, k int, held, args []impl.Term) *framed {
	f := &framed{runner: r, code: c, number: k, slots: slices.Clone(held), stack: slices.Clone(args), at: c.Fns[k].At}
	for len(f.slots) < c.Fns[k].Slots {
		f.slots = append(f.slots, num(0))
	}
	return f
}

// bear puts a frame on the others, unless it is there.
func (f *framed) bear() {
	if !f.born {
		f.frames = append(f.frames, f)
	}
	f.born = true
}

// run begins a frame, and runs it to its end.
func (f *framed) run() (impl.Term, *upward) {
	r := f.runner
	if up := r.count(1); up != nil {
		return impl.Term{}, up
	}
	f.bear()
	defer func() { r.frames = r.frames[:len(r.frames)-1] }()
	b := f.code.Fns[f.number]
	r.begun = append(r.begun, impl.Call{Name: b.Name, Node: b.Node, Depth: len(r.frames)})
	for !f.ended {
		n, at, stack := f.code.Ins[f.at], f.at, f.stack
		f.at++
		up := f.step(n, opRows[n.Op].name)
		if up != nil && up.class == turnOver { // the instruction is begun anew in the next turn
			f.at, f.stack = at, stack
			up = r.life.rest()
		}
		if up == nil {
			continue
		}
		last := len(f.handlers) - 1
		if up.class == impl.AnFuel || last < 0 {
			return impl.Term{}, up
		}
		h := f.handlers[last]
		f.handlers, f.stack, f.at = f.handlers[:last], f.stack[:h.values], h.at
		if h.op == impl.OpTry {
			f.push(up.v, atom([]string{"", "error", "throw", "exit"}[up.class]))
		}
	}
	return f.stack[0], nil
}

func (f *framed) push(row ...impl.Term) { f.stack = append(slices.Clone(f.stack), row...) }

// pop is the top n values, the lowest one first.
func (f *framed) pop(n int) []impl.Term {
	at := len(f.stack) - n
	row := slices.Clone(f.stack[at:])
	f.stack = f.stack[:at]
	return row
}

func (f *framed) top() impl.Term { return f.stack[len(f.stack)-1] }

// made pushes a term, when it is right.
func (f *framed) made(t impl.Term, up *upward) *upward {
	if up == nil {
		t, up = right(t)
	}
	if up == nil {
		f.push(t)
	}
	return up
}

func (f *framed) step(n impl.Ins, name string) *upward {
	switch name {
	case "Step":
		return f.count(n.A)
	case "Push":
		if n.V.Kind == impl.TmFun {
			n.V = f.code.made(n.V)
		}
		f.push(n.V)
	case "Load":
		f.push(f.slots[n.C])
	case "Store":
		f.slots[n.C] = f.pop(1)[0]
	case "Pick":
		f.push(f.stack[n.C])
	case "Dup":
		f.push(f.top())
	case "Drop":
		f.pop(1)
	case "Cut":
		f.stack = f.stack[:n.C]
	case "Jump":
		f.at = n.A
	case "Is", "Same", "Untuple", "Unlist", "Untail", "IsMap", "Get", "IsBin", "Take", "End", "Took":
		whole := f.stack
		fits, up := f.match(n, name)
		if up != nil {
			return up
		}
		if !fits {
			f.stack, f.at = whole[:n.B], n.A
		}
	case "Tuple":
		return f.made(tuple(f.pop(n.C)...), nil)
	case "List":
		return f.made(list(f.pop(n.C)...), nil)
	case "Cons":
		rest := f.pop(1)[0]
		if rest.Kind != impl.TmList {
			return goesError("badarg")
		}
		return f.made(list(append(f.pop(n.C), rest.Kids...)...), nil)
	case "Map":
		under := dict()
		if n.B == 1 {
			under = f.pop(1)[0]
		}
		if under.Kind != impl.TmMap {
			return goesWith("badmap", under)
		}
		return f.made(dictOf(append(slices.Clone(under.Kids), f.pop(2*n.C)...)), nil)
	case "Operate":
		row := f.pop(2)
		return f.made(operatorByWords(n.S, row[0], row[1]))
	case "Unary":
		return f.made(unaryByWords(n.S, f.pop(1)[0]))
	case "Return":
		f.ended = true
	case "Fail":
		if n.C == 1 {
			return goesWith(n.S, f.top())
		}
		return goesError(n.S)
	case "Try", "Guard":
		f.handlers = append(slices.Clone(f.handlers), handlerByWords{n.Op, n.A, len(f.stack)})
	case "Ended":
		f.handlers = f.handlers[:len(f.handlers)-1]
	default:
		return f.step2(n, name)
	}
	return nil
}

func (f *framed) step2(n impl.Ins, name string) *upward {
	switch name {
	case "Row", "Put", "Whole", "Join", "Add":
		return f.gather(n, name)
	case "Also":
		switch v := f.top(); {
		case !isYesOrNo(v):
			return goesWith("badarg", v)
		case isYes(v) == (n.S == "orelse"):
			f.at = n.A
		default:
			f.pop(1)
		}
	case "Call", "Builtin", "Remote", "Apply", "Fun":
		v, up := f.call(n, name)
		return f.made(v, up)
	case "Raise", "Resume":
		row := f.pop(2)
		if name == "Resume" && same(row[1], atom("value")) {
			f.push(row[0])
			return nil
		}
		class := slices.IndexFunc([]string{"", "error", "throw", "exit"}, func(s string) bool { return same(row[1], atom(s)) })
		if class < 1 {
			return goesError("bad_code")
		}
		return &upward{class, row[0]}
	case "True":
		if !isYes(f.pop(1)[0]) {
			return goesError("not_true")
		}
	case "Gen":
		if v := f.top(); v.Kind != []int{impl.TmList, impl.TmBin}[n.C] {
			return goesWith("bad_generator", v)
		}
		f.push(num(0))
	case "Next", "More":
		return f.loop(n, name)
	case "Filter":
		switch v := f.pop(1)[0]; {
		case !isYesOrNo(v):
			return goesWith("bad_filter", v)
		case !isYes(v):
			f.at = n.A
		}
	default: // OpSend, OpMark, OpLetter, OpTaken
		return f.letters(n, name, f.pop(map[string]int{"Send": 2, "Mark": 1}[name]))
	}
	return nil
}

// isMark is whether a term is an Int from 0 to as many as there are.
func isMark(t impl.Term, many int) bool { return t.Kind == impl.TmInt && between(t.N, 0, many) }

// rowDigits is the bits of a row, if a Bin and an Int are one.
func rowDigits(v, n impl.Term) (string, bool) {
	b := impl.Bits{Len: n.N, Bytes: v.S}
	if v.Kind != impl.TmBin || n.Kind != impl.TmInt || !impl.BitsOK(b) {
		return "", false
	}
	return digits(b), true
}

func rowTerms(s string) []impl.Term { return []impl.Term{bin(row(s).Bytes), num(len(s))} }

// segOf is a segment as the second reading of 4.2 has it.
func segOf(n impl.Ins) *part { return &part{Node: impl.Node{S: n.S, N: n.C & 7}} }

func (f *framed) gather(n impl.Ins, name string) *upward {
	switch name {
	case "Row":
		f.push(rowTerms("")...)
		return nil
	case "Add":
		v := f.pop(1)[0]
		under := f.stack[n.C]
		if under.Kind != impl.TmList {
			return goesError("bad_code")
		}
		more, up := right(list(append(slices.Clone(under.Kids), v)...))
		if up == nil {
			f.stack = slices.Clone(f.stack)
			f.stack[n.C] = more
		}
		return up
	case "Put":
		return f.put(n)
	}
	taken := f.pop(2)
	all, is := rowDigits(taken[0], taken[1])
	if !is {
		return goesError("bad_code")
	}
	if name == "Whole" {
		return f.made(binOfDigits(all, nil))
	}
	ahead, is := rowDigits(f.stack[n.C], f.stack[n.C+1])
	if !is {
		return goesError("bad_code")
	}
	if len(ahead+all) > 32000 {
		return goesError("badarg")
	}
	f.stack = slices.Clone(f.stack)
	copy(f.stack[n.C:], rowTerms(ahead+all))
	return nil
}

func (f *framed) put(n impl.Ins) *upward {
	size := impl.Term{}
	if n.C&8 == 0 {
		size = f.pop(1)[0]
	}
	v := f.pop(1)[0]
	taken := f.pop(2)
	all, is := rowDigits(taken[0], taken[1])
	if !is || n.C&16 != 0 && v.Kind != impl.TmList {
		return goesError("bad_code")
	}
	values := []impl.Term{v}
	if n.C&16 != 0 {
		values = v.Kids
	}
	if _, is := widthOf(segOf(n), size); !is {
		return goesError("badarg")
	}
	for _, v := range values {
		piece, is := pieceByWords(segOf(n), v, size)
		if !is || len(all+piece) > 32000 {
			return goesError("badarg")
		}
		all += piece
	}
	f.push(rowTerms(all)...)
	return nil
}

func (f *framed) loop(n impl.Ins, name string) *upward {
	if up := f.count(1); up != nil {
		return up
	}
	row := f.pop(2)
	many, kind := len(row[0].Kids), impl.TmList
	if name == "More" {
		many, kind = 8*len(row[0].S), impl.TmBin
	}
	switch {
	case row[0].Kind != kind || !isMark(row[1], many):
		return goesError("bad_code")
	case row[1].N == many:
		f.at = n.A
	case name == "Next":
		f.push(row[0], num(row[1].N+1), row[0].Kids[row[1].N])
	default:
		f.push(row[0], row[1], row[0], row[1])
	}
	return nil
}

func (f *framed) match(n impl.Ins, name string) (bool, *upward) {
	v := f.top()
	switch name {
	case "Is":
		f.pop(1)
		return same(v, n.V), nil
	case "Same":
		f.pop(1)
		return same(v, f.slots[n.C]), nil
	case "Untuple", "Unlist", "Untail":
		f.pop(1)
		kind := impl.TmList
		if name == "Untuple" {
			kind = impl.TmTuple
		}
		if v.Kind != kind || len(v.Kids) < n.C || len(v.Kids) > n.C && name != "Untail" {
			return false, nil
		}
		if name == "Untail" {
			f.push(list(v.Kids[n.C:]...))
		}
		first := slices.Clone(v.Kids[:n.C])
		slices.Reverse(first)
		f.push(first...)
	case "IsMap":
		return v.Kind == impl.TmMap, nil
	case "Get":
		for i := 0; v.Kind == impl.TmMap && i < len(v.Kids); i += 2 {
			if same(v.Kids[i], n.V) {
				f.push(v.Kids[i+1])
				return true, nil
			}
		}
		return false, nil
	case "IsBin":
		f.push(num(0))
		return v.Kind == impl.TmBin, nil
	default:
		return f.bits(n, name)
	}
	return true, nil
}

func (f *framed) bits(n impl.Ins, name string) (bool, *upward) {
	size := impl.Term{}
	if name == "Take" && n.C&8 == 0 {
		size = f.pop(1)[0]
	}
	row := f.pop(2)
	if row[0].Kind != impl.TmBin || !isMark(row[1], 8*len(row[0].S)) {
		return false, goesError("bad_code")
	}
	left := digitsOfText(row[0].S)[row[1].N:]
	switch name {
	case "End":
		return left == "", nil
	case "Took":
		was := f.pop(1)[0]
		if !isMark(was, 8*len(row[0].S)) {
			return false, goesError("bad_code")
		}
		f.push(row[1])
		return was.N != row[1].N, nil
	}
	width, is := widthOf(segOf(n), size)
	if width < 0 {
		width = len(left)
		is = is && (width%8 == 0 || n.C&4 != 0)
	}
	if !is || width > len(left) {
		return false, nil
	}
	f.push(row[0], num(row[1].N+width))
	if n.S == "int" {
		f.push(num(getByWords(left[:width], n.C&1 != 0, n.C&2 != 0)))
	} else {
		f.push(rowTerms(left[:width])[0])
	}
	return true, nil
}

func (f *framed) call(n impl.Ins, name string) (impl.Term, *upward) {
	fns := f.code.Fns
	switch name {
	case "Call":
		return f.block(f.code, n.C, nil, f.pop(fns[n.C].Arity))
	case "Builtin":
		return f.there(n.S, f.pop(n.C))
	case "Remote":
		args := f.pop(n.C)
		module, name, _ := strings.Cut(n.S, ":")
		c := f.shelf.module(module, "current")
		if c == nil {
			return impl.Term{}, goesError("undef")
		}
		if k := c.named(name, n.C); k >= 0 && c.Fns[k].Export {
			return f.block(c, k, nil, args)
		}
		return f.thereOrUndef(name, args)
	case "Fun":
		return f.code.made(fun(fns[n.C].Node, f.pop(fns[n.C].Held)...)), nil
	}
	args := f.pop(n.C)
	return f.apply(f.pop(1)[0], args)
}

func (r *runner) there(name string, args []impl.Term) (impl.Term, *upward) {
	if up := r.count(1); up != nil {
		return impl.Term{}, up
	}
	if r.life != nil && isNamed(processNames, name, len(args)) {
		return r.life.does(name, args)
	}
	return thereByWords(name, args)
}

func (r *runner) thereOrUndef(name string, args []impl.Term) (impl.Term, *upward) {
	if !isNamed(guardNames+plainNames+processNames, name, len(args)) {
		return impl.Term{}, goesError("undef")
	}
	return r.there(name, args)
}

// refers is the function that a Fun of code refers to.
func (c *shelved) refers(f impl.Term, place int) (impl.CodeRef, bool) {
	for _, ref := range c.Refers {
		if ref.Node == place && len(f.Kids) == 0 {
			return ref, true
		}
	}
	return impl.CodeRef{}, false
}

// fun is the number of the block that a Fun of code is, -1 without one.
func (c *shelved) fun(f impl.Term, place int) int {
	return slices.IndexFunc(c.Fns, func(b impl.CodeFn) bool { return b.Name == "" && b.Node == place && b.Held == len(f.Kids) })
}

func (r *runner) apply(v impl.Term, args []impl.Term) (impl.Term, *upward) {
	c, place := r.shelf.of(v)
	if c == nil {
		return impl.Term{}, goesWith("badfun", v)
	}
	if ref, is := c.refers(v, place); is {
		if ref.Arity != len(args) {
			return impl.Term{}, goesWith("badarity", v)
		}
		if k := c.named(ref.Name, ref.Arity); k >= 0 {
			return r.block(c, k, nil, args)
		}
		return r.thereOrUndef(ref.Name, args)
	}
	switch k := c.fun(v, place); {
	case k < 0:
		return impl.Term{}, goesWith("badfun", v)
	case c.Fns[k].Arity != len(args):
		return impl.Term{}, goesWith("badarity", v)
	default:
		return r.block(c, k, v.Kids, args)
	}
}

// P7: what Compile makes, run, answers what Eval answers, step by step; so says the second reading, too.
func TestCompiledCodeRunsAsEvalP7(t *testing.T) {
	t.Parallel()
	r := newChance(25)
	classes := map[int]int{}
	for _, m := range spokenModules(t, 2000) {
		tree := flat(m)
		code := compiled(t, tree)
		for range 2 {
			args := []impl.Term{anyTerm(r.Rand, 2), anyTerm(r.Rand, 2)}
			whole, _ := impl.Eval(tree, "f", args, 300)
			for _, fuel := range []int{300, whole.Used, max(0, whole.Used-1), r.Intn(40)} {
				a, wrong := impl.Eval(tree, "f", args, fuel)
				b := ranAt(t, code, args, fuel)
				if wrong != impl.OK || !sameAnswer(a, b) {
					t.Fatalf("%s\nof %v at %d: %s, %d used; its code, run, %s, %d used\n%s", textByForms(m), args, fuel, shown(a), a.Used, shown(b), b.Used, listing(code))
				}
				classes[a.Class]++
			}
		}
	}
	if slices.Min([]int{classes[0], classes[1], classes[2], classes[3], classes[4]}) < 40 {
		t.Error("too few of a class", classes)
	}
}

// P7: programs that go through all that code does, at each fuel.
func TestProgramsRunAsEvalP7(t *testing.T) {
	for forms, args := range map[string][]impl.Term{
		`f(N) -> [fib(X) || X <- range(0, N), X rem 2 == 1]. fib(0) -> 0; fib(1) -> 1; fib(N) -> fib(N - 1) + fib(N - 2). range(A, B) when A > B -> []; range(A, B) -> [A | range(A + 1, B)].`: {num(7)},
		`f(B) -> {<<X:4 || <<X:3, _:1>> <- B>>, [{H, T} || H <- binary_to_list(B), <<T:2/binary, _/binary>> <- [B]]}.`:                                                                         {bin("abcd")},
		`f(B) -> <<N, S:N/binary, R/binary>> = B, <<R/binary, "ab":16/little, S/binary, N:8/signed>>.`:                                                                                         {bin("\x02abcd")},
		`f(X) -> try g(X) catch throw:{Y, Z} when Y > Z -> {Y, Z}; error:E -> {E, X} after h(X) end. g(1) -> throw({2, 1}); g(2) -> throw({1, 2}); g(X) -> hd(X). h(X) -> {X}.`:                {num(1)},
		`f(X) -> try try exit(X) catch throw:_ -> 0 after throw({X}) end catch C:V -> {C, V} end.`:                                                                                             {num(1)},
		`f(X) -> case X of #{a => Y, b => [Y | _]} -> Y; #{a => Y} when Y > 1 -> fun(Z) -> {X, Y, Z} end end.`:                                                                                 {dict(atom("a"), num(2))},
		`f(X) -> F = fun(A) -> fun(B) -> {A, B, X} end end, G = F(1), {G(2), (fun hd/1)([X]), (fun g/2)(X, 1), m:hd([1])}. g(A, B) -> {B, A}.`:                                                 {num(5)},
		`f(X) -> (X == 1) andalso (true or X) orelse not X.`:                                                                                                                                   {num(2)},
		`f(X) -> #{a => 1 | X = #{b => 2 | #{}}}, [1, 2 | [X]] ++ "ab".`:                                                                                                                       {num(2)},
	} {
		tree := parsed(t, "module m. "+forms)
		if code, _ := impl.Lint(tree); code != impl.OK {
			code, at := impl.Lint(tree)
			t.Error(forms, code, at)
			continue
		}
		code := heldAgainstWords(t, forms, tree)
		whole, _ := impl.Eval(tree, "f", args, impl.MaxFuel)
		for fuel := range min(whole.Used, 400) + 2 {
			a, _ := impl.Eval(tree, "f", args, fuel)
			if b := ranAt(t, code, args, fuel); !sameAnswer(a, b) {
				t.Errorf("%s\nat %d: %s, %d used; its code, run, %s, %d used", forms, fuel, shown(a), a.Used, shown(b), b.Used)
				break
			}
		}
	}
}
