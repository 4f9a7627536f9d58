package tests

import (
	"slices"
	"strings"

	"loop.example/g00019/impl"
)

// turnOver is what goes up ahead of a step that would be one too many in a turn, and where nothing is left but to wait.
const turnOver = 100

// changeByWords is Change of texts and acts that are some: a second reading of 11, in which processes run code by the words of 5.1 and 6.
func changeByWords(texts []string, acts []impl.Act) impl.Report {
	var codes []impl.Code
	for _, text := range texts {
		tree, _, _ := impl.Parse(text)
		code, _ := impl.Compile(tree)
		codes = append(codes, code)
	}
	w := &world{shelf: &shelf{{Code: codes[0], is: "current"}}}
	for _, a := range acts {
		w.act(a)
		switch a.Kind {
		case impl.AcSpawn:
			if !strings.Contains(a.Name, ":") {
				a.Name = codes[0].Name + ":" + a.Name
			}
			w.spawn(a.Name, a.V.Kids)
		case impl.AcLoad:
			w.load(codes[a.N])
		case impl.AcPurge, impl.AcSoft:
			w.purge(a.Name, a.Kind == impl.AcSoft)
		}
	}
	return w.over()
}

func (w *world) spawn(name string, args []impl.Term) {
	module, name, _ := strings.Cut(name, ":")
	c := w.shelf.module(module, "current")
	if c == nil || w.living() >= 60 {
		return
	}
	if k := c.named(name, len(args)); k >= 0 {
		w.bearFrame(0, c, k, nil, args)
	}
}

func (w *world) load(code impl.Code) {
	if w.shelf.module(code.Name, "old") != nil {
		w.event(impl.EvKeep, 0, atom(code.Name))
		return
	}
	if c := w.shelf.module(code.Name, "current"); c != nil {
		c.is = "old"
	}
	*w.shelf = append(*w.shelf, &shelved{code, len(*w.shelf), "current"})
	w.event(impl.EvLoad, 0, num(len(*w.shelf)-1))
}

func (w *world) purge(module string, softly bool) {
	c := w.shelf.module(module, "old")
	if c == nil {
		return
	}
	var users []*being
	for _, b := range w.all {
		if !b.ended && b.uses(c) {
			users = append(users, b)
		}
	}
	if softly && len(users) > 0 {
		w.event(impl.EvKeep, 0, atom(module))
		return
	}
	c.is = "gone"
	for _, b := range users {
		w.signal(b.pid, 0, false, atom("kill"))
		w.endAll()
	}
	w.event(impl.EvPurge, 0, num(len(users)))
}

// uses is whether a process has a frame that runs code, or a Fun of it stands in a frame or in a letter.
func (b *being) uses(c *shelved) bool {
	for _, f := range b.runner.frames {
		if f.code == c || slices.ContainsFunc(f.slots, c.isIn) || slices.ContainsFunc(f.stack, c.isIn) {
			return true
		}
	}
	return slices.ContainsFunc(b.letters, c.isIn)
}

// isIn is whether a Fun of code is a term or stands in it.
func (c *shelved) isIn(t impl.Term) bool {
	return t.Kind == impl.TmFun && between(t.N, 2000*c.number, 2000*c.number+1999) || slices.ContainsFunc(t.Kids, c.isIn)
}

// bearFrame begins a process that runs a block; its first frame is there at once.
func (w *world) bearFrame(by int, c *shelved, k int, held, args []impl.Term) *being {
	r := &runner{shelf: w.shelf}
	f := r.frame(c, k, held, args)
	f.bear()
	b := w.bear(by, func(*second) (impl.Term, *upward) { return f.run() })
	r.life, b.runner = b, r
	return b
}

// bearOf begins a process that calls a Fun which is to run.
func (w *world) bearOf(by int, f impl.Term) *being {
	c, place := w.shelf.of(f)
	if ref, is := c.refers(f, place); is {
		return w.bearFrame(by, c, c.named(ref.Name, 0), nil, nil)
	}
	return w.bearFrame(by, c, c.fun(f, place), f.Kids, nil)
}

// isToRun is whether a Fun is code's that is there, and called without arguments.
func (s *shelf) isToRun(f impl.Term) bool {
	c, place := s.of(f)
	if c == nil {
		return false
	}
	if ref, is := c.refers(f, place); is {
		return ref.Arity == 0 && c.named(ref.Name, 0) >= 0
	}
	k := c.fun(f, place)
	return k >= 0 && c.Fns[k].Arity == 0
}

// steps counts steps of a turn, unless they are too many for it.
func (b *being) steps(n int) *upward {
	if b.turn+n > 50 {
		return &upward{class: turnOver}
	}
	b.turn += n
	b.used += n
	return nil
}

// letters does what instructions do that are not pure; taken is what they took.
func (f *framed) letters(n impl.Ins, name string, taken []impl.Term) *upward {
	b := f.life
	if b == nil {
		return goesError("not_pure")
	}
	switch name {
	case "Send":
		v, up := b.send(taken[0], taken[1])
		return f.made(v, up)
	case "Mark":
		return b.mark(taken[0])
	case "Taken":
		b.takeOut()
		return nil
	}
	if up := f.count(1); up != nil {
		return up
	}
	switch {
	case b.save < len(b.letters):
		b.save++
		f.push(b.letters[b.save-1])
	case b.w.isDue(b.pid):
		f.at = n.A
	default:
		b.waits = true
		return &upward{class: turnOver}
	}
	return nil
}

// diffByWords is Diff of two codes that are sound: blocks are taken for the same until no round tells any more of them apart.
func diffByWords(old, new impl.Code) []impl.Entry {
	differ := map[[2]int]bool{}
	for found := true; found; {
		found = false
		for i := range old.Fns {
			for k := range new.Fns {
				if at := [2]int{i, k}; !differ[at] && !looksSame(old, new, i, k, differ) {
					differ[at], found = true, true
				}
			}
		}
	}
	at := func(c impl.Code, f impl.CodeFn) int { return (&shelved{Code: c}).named(f.Name, f.Arity) }
	var row []impl.Entry
	for i, f := range old.Fns {
		if f.Name == "" {
			continue
		}
		what := impl.DfGone
		if k := at(new, f); k >= 0 {
			what = map[bool]int{false: impl.DfSame, true: impl.DfChanged}[differ[[2]int{i, k}]]
		}
		row = append(row, impl.Entry{Name: f.Name, Arity: f.Arity, What: what})
	}
	for _, f := range new.Fns {
		if f.Name != "" && at(old, f) < 0 {
			row = append(row, impl.Entry{Name: f.Name, Arity: f.Arity, What: impl.DfNew})
		}
	}
	return row
}

// insOfBlock is the instructions of a block.
func insOfBlock(c impl.Code, k int) []impl.Ins {
	if k+1 == len(c.Fns) {
		return c.Ins[c.Fns[k].At:]
	}
	return c.Ins[c.Fns[k].At:c.Fns[k+1].At]
}

// looksSame is whether nothing tells two blocks apart but that some are known to differ.
func looksSame(old, new impl.Code, i, k int, differ map[[2]int]bool) bool {
	a, b := old.Fns[i], new.Fns[k]
	if a.Arity != b.Arity || a.Slots != b.Slots || a.Held != b.Held || a.Export != b.Export {
		return false
	}
	return slices.EqualFunc(insOfBlock(old, i), insOfBlock(new, k), func(m, n impl.Ins) bool {
		if m.Op != n.Op || m.B != n.B || m.S != n.S {
			return false
		}
		switch opRows[m.Op].name {
		case "Call":
			f, g := old.Fns[m.C], new.Fns[n.C]
			return f.Name == g.Name && f.Arity == g.Arity
		case "Fun":
			return !differ[[2]int{m.C, n.C}]
		case "Step":
			return m.A == n.A
		case "Push":
			return samePushed(old, new, m.V, n.V)
		}
		if strings.Contains(opRows[m.Op].fields, "A") && m.A-a.At != n.A-b.At {
			return false
		}
		return m.C == n.C && same(m.V, n.V)
	})
}

func samePushed(old, new impl.Code, v, w impl.Term) bool {
	ref := func(c impl.Code, v impl.Term) string {
		for _, r := range c.Refers {
			if v.Kind == impl.TmFun && len(v.Kids) == 0 && r.Node == v.N {
				return inS("%s/%d", r.Name, r.Arity)
			}
		}
		return ""
	}
	if a, b := ref(old, v), ref(new, w); a != "" || b != "" {
		return a == b
	}
	return same(v, w)
}
