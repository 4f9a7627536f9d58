package tests

import (
	"slices"
	"strings"

	"loop.example/g00019/impl"
)

// line is an instruction that is polished: a place is another line.
type line struct {
	impl.Ins
	to   *line // where its A is, when that is a place
	next *line // what stood behind it at first
	out  bool  // it is left out
	seam bool
}

// polishByWords is sound code as 7 says it is polished, pass by pass through all blocks: a second reading of Polish.
func polishByWords(code impl.Code) impl.Code {
	p := &polishing{code: copiedCode(code), worked: map[string]int{}}
	p.all()
	return p.code
}

// polishing is code that is polished, and how often each thing was done.
type polishing struct {
	code   impl.Code
	lines  []*line
	firsts []*line // of the blocks
	worked map[string]int
}

func (p *polishing) all() {
	p.read()
	p.leaveUnreached("pass1")
	p.join()
	p.shorten()
	p.leaveJumps()
	p.leaveUnreached("pass4")
}

// read makes lines of the code.
func (p *polishing) read() {
	p.lines, p.firsts = nil, nil
	for range p.code.Ins {
		p.lines = append(p.lines, &line{})
	}
	for i, n := range p.code.Ins {
		l := p.lines[i]
		l.Ins = n
		if isPlace(n) {
			l.to = p.lines[n.A]
		}
		if i+1 < len(p.lines) {
			l.next = p.lines[i+1]
		}
	}
	for _, f := range p.code.Fns {
		p.firsts = append(p.firsts, p.lines[f.At])
	}
}

func isPlace(n impl.Ins) bool {
	return strings.Contains(opRows[n.Op].fields, "A") && opRows[n.Op].name != "Step"
}

// write makes the code of those lines that are not left out.
func (p *polishing) write() {
	p.lines = slices.DeleteFunc(p.lines, func(l *line) bool { return l.out })
	p.code.Ins = nil
	for _, l := range p.lines {
		n := l.Ins
		if isPlace(n) {
			l.to = stays(l.to)
			n.A = slices.Index(p.lines, l.to)
		}
		p.code.Ins = append(p.code.Ins, n)
	}
	for k, l := range p.firsts {
		p.firsts[k] = stays(l)
		p.code.Fns[k].At = slices.Index(p.lines, p.firsts[k])
	}
}

// stays is a line, or the next one that is not left out.
func stays(l *line) *line {
	for l.out {
		l = l.next
	}
	return l
}

// reachedByWords tells of each instruction of sound code whether it is reached.
func reachedByWords(code impl.Code) []bool {
	var row []bool
	v, _, _ := rulesByWords(code)
	for _, s := range v.reached {
		row = append(row, s != nil)
	}
	return row
}

func (p *polishing) leaveUnreached(what string) {
	p.write()
	for i, is := range reachedByWords(p.code) {
		p.lines[i].out = !is
		if !is {
			p.worked[what]++
		}
	}
	p.write()
}

func (p *polishing) join() {
	for _, l := range p.lines {
		l.seam = l.seam || slices.Contains(p.firsts, l)
		if l.to != nil {
			l.to.seam = true
		}
	}
	var down []*line
	for _, l := range p.lines {
		step, made := stepAhead(down), []*line(nil)
		if l.Op == impl.OpOperate || l.Op == impl.OpUnary || l.Op == impl.OpTuple || l.Op == impl.OpList || l.Op == impl.OpCons || l.Op == impl.OpMap {
			made = pushesAhead(down, (&rules{}).looks(l.Ins, opRows[l.Op].name))
		}
		switch {
		case l.seam:
			down = append(down, l)
		case l.Op == impl.OpStep && step != nil && step.A+l.A <= 100000:
			step.A += l.A
			l.out = true
			p.worked["steps"]++
		case len(made) > 0 && makes(made, l.Ins) != nil:
			made[0].V = *makes(made, l.Ins)
			for _, other := range made[1:] {
				other.out = true
			}
			down = down[:len(down)-len(made)+1]
			l.out = true
			p.worked[opRows[l.Op].name]++
		default:
			down = append(down, l)
		}
	}
	p.write()
}

// stepAhead is the OpStep behind which there is nothing but OpPush and OpLoad, none of these at a seam.
func stepAhead(down []*line) *line {
	for _, l := range slices.Backward(down) {
		if l.Op == impl.OpStep {
			return l
		}
		if l.seam || l.Op != impl.OpPush && l.Op != impl.OpLoad {
			return nil
		}
	}
	return nil
}

// pushesAhead is the last n lines, when they are such pushes as may be worked with.
func pushesAhead(down []*line, n int) []*line {
	if n > len(down) {
		return nil
	}
	row := down[len(down)-n:]
	for k, l := range row {
		if l.Op != impl.OpPush || l.V.Kind == impl.TmFun || l.seam && k > 0 {
			return nil
		}
	}
	return row
}

// makes is what an instruction makes of pushes, when it makes a value: what a block answers that does just this.
func makes(pushes []*line, n impl.Ins) *impl.Term {
	code := impl.Code{Name: "m", Fns: []impl.CodeFn{{Name: "f"}}}
	for _, l := range pushes {
		code.Ins = append(code.Ins, l.Ins)
	}
	code.Ins = append(code.Ins, n, impl.Ins{Op: impl.OpReturn})
	if a, _ := runByWords(code, "f", nil, 1); a.Class == impl.AnValue {
		return &a.V
	}
	return nil
}

func (p *polishing) shorten() {
	place := map[*line]int{}
	for i, l := range p.lines {
		place[l] = i
	}
	for i, l := range p.lines {
		name := opRows[l.Op].name
		if !slices.Contains(failing, name) && !slices.Contains(strings.Fields("Jump Also Next More Filter Letter"), name) {
			continue
		}
		for l.to.Op == impl.OpJump {
			if name != "Jump" && place[l.to.to] <= i {
				p.worked["stopped"]++
				break
			}
			l.to = l.to.to
			p.worked["jumped"]++
			if name == "Jump" && place[l.to] <= i {
				p.worked["back"]++
			}
		}
	}
}

func (p *polishing) leaveJumps() {
	for i, l := range slices.Backward(p.lines) {
		at := slices.Index(p.lines, l.to)
		if l.Op != impl.OpJump || at < i {
			continue
		}
		l.out = !slices.ContainsFunc(p.lines[i+1:at], func(other *line) bool { return !other.out })
		if l.out {
			p.worked["jumps"]++
		}
	}
	p.write()
}
