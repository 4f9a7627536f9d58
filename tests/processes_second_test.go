package tests

import (
	"iter"
	"slices"

	"loop.example/g00019/impl"
)

// world is a second reading of 10: a node as plain lists, whose processes work out the tree (4.2) as the second
// reading of it does, and stop where a turn is over. (That of 11 runs code.)
type world struct {
	tree     []impl.Node
	shelf    *shelf
	now      int
	since    int
	events   []impl.Event
	all      []*being   // all that were ever born: Pid 1 first
	rows     [3][]int   // who is ready
	links    [][2]int   // each both ways round
	monitors []watching // in the order of their Refs
	dues     []dueThing // letters and receives, in the order in which they were asked for
	tables   []sharedTable
	refs     int
	ending   []*being // who is to end
	killings []impl.Term
}

type being struct {
	second
	runner  *runner
	w       *world
	pid     int
	prio    int
	trap    bool
	waits   bool
	doomed  bool
	ended   bool
	name    string
	letters []impl.Term
	save    int
	turn    int // steps of this turn
	next    func() (bool, bool)
	stop    func()
	pause   func(bool) bool
}

type watching struct{ ref, by, of int }

// dueThing is a letter of send_after (ref is not 0), or a receive of the process by.
type dueThing struct {
	at, ref, by int
	to, letter  impl.Term
}

type sharedTable struct {
	name  string
	owner int
	impl.Table
}

// nodeByWords is NodeRun of acts that are some.
func nodeByWords(tree []impl.Node, acts []impl.Act) impl.Report {
	w := &world{tree: tree}
	_, parts := partsOfTree(tree)
	for _, a := range acts {
		w.act(a)
		if a.Kind == impl.AcSpawn && isDefinedIn(parts, a.Name, len(a.V.Kids)) && w.living() < 60 {
			w.bear(0, func(s *second) (impl.Term, *upward) { return s.call(a.Name, a.V.Kids) })
		}
	}
	return w.over()
}

// act is what happens by an act that is no AcSpawn.
func (w *world) act(a impl.Act) {
	switch a.Kind {
	case impl.AcSend:
		w.give(a.N, a.V)
	case impl.AcExit:
		w.signal(a.N, 0, false, a.V)
		w.endAll()
	case impl.AcTick:
		w.tick(w.now + a.N)
	case impl.AcRun:
		for range a.N {
			w.oneTurn()
		}
	}
}

// over is the report when all is over.
func (w *world) over() impl.Report {
	for _, b := range w.all {
		b.stop()
	}
	return w.report()
}

func (w *world) report() impl.Report {
	r := impl.Report{Now: w.now, Since: w.since, Events: w.events, Ready: slices.Concat(w.rows[:]...)}
	for _, b := range w.all {
		if b.ended {
			continue
		}
		p := impl.Proc{Pid: b.pid, Waits: b.waits, Prio: b.prio, Trap: b.trap, Name: b.name, Letters: b.letters, Steps: b.used}
		for _, l := range w.links {
			if l[0] == b.pid {
				p.Links = append(p.Links, l[1])
			}
		}
		slices.Sort(p.Links)
		r.Procs = append(r.Procs, p)
	}
	return r
}

// who is the process with a Pid that has not ended and is not to.
func (w *world) who(pid int) *being {
	if pid < 1 || pid > len(w.all) || w.all[pid-1].ended || w.all[pid-1].doomed {
		return nil
	}
	return w.all[pid-1]
}

func (w *world) living() int {
	n := 0
	for _, b := range w.all {
		if !b.ended {
			n++
		}
	}
	return n
}

func (w *world) named(name string) *being {
	for _, b := range w.all {
		if !b.ended && b.name != "" && b.name == name {
			return b
		}
	}
	return nil
}

func (w *world) event(kind, pid int, v impl.Term) {
	if len(w.events) < 400 {
		w.events = append(w.events, impl.Event{Now: w.now, Kind: kind, Pid: pid, V: v})
	}
}

// bear begins a process that works something out.
func (w *world) bear(by int, work func(s *second) (impl.Term, *upward)) *being {
	b := &being{w: w, pid: len(w.all) + 1, prio: 1}
	b.second = second{held: map[int][]string{}, life: b}
	if w.tree != nil {
		b.whole, b.all = partsOfTree(w.tree)
	}
	b.next, b.stop = iter.Pull(func(yield func(bool) bool) {
		b.pause = yield
		_, up := work(&b.second)
		if b.doomed {
			return
		}
		reason := atom("normal")
		if up != nil {
			reason = []impl.Term{{}, tuple(atom("error"), up.v), tuple(atom("nocatch"), up.v), up.v}[up.class]
			if !impl.TermOK(reason) {
				reason = atom("system_limit")
			}
		}
		w.doom(b, reason)
		w.endAll()
	})
	w.all = append(w.all, b)
	w.event(impl.EvSpawn, b.pid, pid(by))
	w.rows[1] = append(w.rows[1], b.pid)
	return b
}

func chosenByWords(rows [3][]int, since int) (int, int) {
	switch {
	case len(rows[0]) > 0:
		return rows[0][0], since
	case len(rows[2]) > 0 && (since >= 8 || len(rows[1]) == 0):
		return rows[2][0], 0
	case len(rows[1]) > 0:
		return rows[1][0], since + 1
	}
	return 0, since
}

func (w *world) oneTurn() {
	pid, since := chosenByWords(w.rows, w.since)
	w.since = since
	if pid == 0 {
		return
	}
	b := w.all[pid-1]
	w.outOfRows(pid)
	b.turn = 0
	b.next()
	if !b.ended && !b.waits {
		w.rows[b.prio] = append(w.rows[b.prio], pid)
	}
}

func (w *world) outOfRows(pid int) {
	for i, row := range w.rows {
		w.rows[i] = slices.DeleteFunc(slices.Clone(row), func(other int) bool { return other == pid })
	}
}

// count is a step; ahead of one that is too many for the turn the others have theirs.
func (b *being) count() *upward {
	if b.turn == 50 {
		if up := b.rest(); up != nil {
			return up
		}
	}
	b.turn++
	b.used++
	return nil
}

// rest is until the next turn; one who ends in it goes up through all.
func (b *being) rest() *upward {
	if !b.pause(true) {
		b.doomed = true // or the whole node is over
		return gone()
	}
	return nil
}

func gone() *upward { return &upward{class: impl.AnFuel} }

// or is what comes of something that may have ended the process that did it.
func (b *being) or(v impl.Term) (impl.Term, *upward) {
	if b.doomed {
		return v, gone()
	}
	return v, nil
}

func (w *world) wake(b *being) {
	if b.waits {
		b.waits = false
		w.rows[b.prio] = append(w.rows[b.prio], b.pid)
	}
}

func (w *world) give(to int, letter impl.Term) {
	if b := w.who(to); b != nil && len(b.letters) < 500 && impl.TermOK(letter) {
		b.letters = append(slices.Clone(b.letters), letter)
		w.wake(b)
	}
}

func signalByWords(trap, link bool, reason impl.Term) (int, impl.Term) {
	switch {
	case same(reason, atom("kill")) && !link:
		return 2, atom("killed")
	case trap:
		return 1, impl.Term{}
	case same(reason, atom("normal")):
		return 0, impl.Term{}
	}
	return 2, reason
}

func (w *world) signal(to, from int, link bool, reason impl.Term) {
	b := w.who(to)
	if b == nil {
		return
	}
	what, why := signalByWords(b.trap, link, reason)
	if what == 1 {
		w.give(to, tuple(atom("exit"), pid(from), reason))
	}
	if what == 2 {
		w.doom(b, why)
	}
}

func (w *world) doom(b *being, reason impl.Term) {
	b.doomed = true
	w.ending, w.killings = append(w.ending, b), append(w.killings, reason)
}

// endAll ends who is to end; those who are to by it come behind them.
func (w *world) endAll() {
	for len(w.ending) > 0 {
		b, reason := w.ending[0], w.killings[0]
		w.ending, w.killings = w.ending[1:], w.killings[1:]
		w.event(impl.EvEnd, b.pid, reason)
		b.ended = true
		w.outOfRows(b.pid)
		w.tables = slices.DeleteFunc(w.tables, func(t sharedTable) bool { return t.owner == b.pid })
		w.dues = slices.DeleteFunc(w.dues, func(d dueThing) bool { return d.ref == 0 && d.by == b.pid })
		w.monitors = slices.DeleteFunc(w.monitors, func(m watching) bool { return m.by == b.pid })
		for other := range len(w.all) + 1 {
			if slices.Contains(w.links, [2]int{b.pid, other}) {
				w.part(b.pid, other)
				w.signal(other, b.pid, true, reason)
			}
		}
		for _, m := range slices.Clone(w.monitors) {
			if m.of == b.pid {
				w.give(m.by, tuple(atom("down"), ref(m.ref), pid(b.pid), reason))
			}
		}
		w.monitors = slices.DeleteFunc(w.monitors, func(m watching) bool { return m.of == b.pid })
	}
}

func (w *world) join(a, b int) {
	w.part(a, b)
	w.links = append(w.links, [2]int{a, b}, [2]int{b, a})
}

func (w *world) part(a, b int) {
	w.links = slices.DeleteFunc(w.links, func(l [2]int) bool { return l == [2]int{a, b} || l == [2]int{b, a} })
}

// tick lets what is due happen moment by moment.
func (w *world) tick(till int) {
	for {
		at := till + 1
		for _, d := range w.dues {
			if d.at >= 0 && d.at < at {
				at = d.at
			}
		}
		if at > till {
			break
		}
		w.now = max(w.now, at)
		i := slices.IndexFunc(w.dues, func(d dueThing) bool { return d.at == at })
		d := w.dues[i]
		if d.ref == 0 {
			w.dues[i].at = -1 - at // it has happened; that it is due is still known
			w.wake(w.all[d.by-1])
			continue
		}
		w.dues = slices.Delete(w.dues, i, i+1)
		if d.to.Kind == impl.TmPid {
			w.give(d.to.N, d.letter)
		} else if b := w.named(d.to.S); b != nil {
			w.give(b.pid, d.letter)
		}
	}
	w.now = till
}

func (b *being) send(to, letter impl.Term) (impl.Term, *upward) {
	w := b.w
	name := ""
	switch {
	case to.Kind == impl.TmPid:
		w.give(to.N, letter)
		return letter, nil
	case to.Kind == impl.TmAtom && w.named(to.S) != nil:
		name = to.S
	case to.Kind == impl.TmTuple && len(to.Kids) == 2 && to.Kids[0].Kind == impl.TmAtom && to.Kids[1].Kind == impl.TmAtom:
		if to.Kids[1].S == "local" {
			name = to.Kids[0].S
		}
	default:
		return letter, goesError("badarg")
	}
	if r := w.named(name); r != nil {
		w.give(r.pid, letter)
	}
	return letter, nil
}

func isTime(t impl.Term) bool { return t.Kind == impl.TmInt && between(t.N, 0, 1000000000) }

// mark begins a receive.
func (b *being) mark(time impl.Term) *upward {
	w := b.w
	if !isTime(time) && !same(time, atom("infinity")) {
		return goesError("badarg")
	}
	b.save = 0
	w.dues = slices.DeleteFunc(w.dues, func(d dueThing) bool { return d.ref == 0 && d.by == b.pid })
	if isTime(time) {
		w.dues = append(w.dues, dueThing{at: w.now + time.N, by: b.pid})
	}
	return nil
}

func (b *being) receive(p *part, time impl.Term, env known) (impl.Term, *upward) {
	w := b.w
	if up := b.mark(time); up != nil {
		return time, up
	}
	for {
		if up := b.count(); up != nil {
			return time, up
		}
		if b.save == len(b.letters) {
			if isTime(time) && w.isDue(b.pid) {
				v, _, up := b.last(p.kids[len(p.kids)-1].kids, env)
				return v, up
			}
			b.waits = true
			if up := b.rest(); up != nil {
				return time, up
			}
			continue
		}
		b.save++
		v, took, up := b.take(p.kids[:len(p.kids)-2*p.N], b.letters[b.save-1], env)
		if took || up != nil {
			return v, up
		}
	}
}

func (w *world) isDue(pid int) bool {
	return slices.ContainsFunc(w.dues, func(d dueThing) bool { return d.ref == 0 && d.by == pid && d.at <= w.now })
}

// take is the value of the first clause that fits a letter, which is taken out ahead of its body.
func (b *being) take(clauses []*part, letter impl.Term, env known) (impl.Term, bool, *upward) {
	for _, c := range clauses {
		inner, fits := b.fit(c.kids[0], letter, env)
		if !fits {
			continue
		}
		holds, up := b.guard(c.kids[1].kids, inner)
		if up != nil {
			return letter, false, up
		}
		if holds {
			b.takeOut()
			v, _, up := b.last(c.kids[2].kids, inner)
			return v, true, up
		}
	}
	return letter, false, nil
}

// takeOut takes the letter ahead of the save point out.
func (b *being) takeOut() {
	b.save--
	b.letters = slices.Delete(slices.Clone(b.letters), b.save, b.save+1)
}

// kindsOfArguments is of each function of processes the Kinds of its arguments; 0 is any.
var kindsOfArguments = map[string][]int{
	"link": {impl.TmPid}, "unlink": {impl.TmPid}, "monitor": {impl.TmPid}, "demonitor": {impl.TmRef}, "exit": {impl.TmPid, 0}, "is_alive": {impl.TmPid},
	"trap_exit": {impl.TmAtom}, "priority": {impl.TmAtom}, "register": {impl.TmAtom, impl.TmPid}, "unregister": {impl.TmAtom}, "whereis": {impl.TmAtom},
	"send_after": {impl.TmInt, 0, 0}, "cancel_timer": {impl.TmRef}, "spawn": {impl.TmFun}, "spawn_link": {impl.TmFun}, "spawn_monitor": {impl.TmFun},
	"tab_new": {impl.TmAtom, impl.TmAtom}, "tab_put": {impl.TmAtom, impl.TmTuple}, "tab_get": {impl.TmAtom, 0}, "tab_drop": {impl.TmAtom, 0}, "tab_select": {impl.TmAtom, impl.TmList}, "tab_size": {impl.TmAtom},
}

// does is what a function of processes or tables answers.
func (b *being) does(name string, args []impl.Term) (impl.Term, *upward) {
	for i, kind := range kindsOfArguments[name] {
		if kind != 0 && args[i].Kind != kind {
			return impl.Term{}, goesError("badarg")
		}
	}
	w := b.w
	switch name {
	case "self":
		return pid(b.pid), nil
	case "node":
		return atom("local"), nil
	case "nodes":
		return list(), nil
	case "now":
		return num(w.now), nil
	case "make_ref":
		w.refs++
		return ref(w.refs), nil
	case "say":
		w.event(impl.EvSay, b.pid, args[0])
		return args[0], nil
	case "is_alive":
		return yes(w.who(args[0].N) != nil), nil
	case "spawn", "spawn_link", "spawn_monitor":
		return b.spawn(name, args[0])
	case "link", "unlink", "monitor", "demonitor", "exit":
		return b.touch(name, args)
	case "send_after", "cancel_timer":
		return b.timer(name, args)
	case "trap_exit", "priority":
		return b.set(name, args[0].S)
	case "register", "unregister", "whereis":
		return b.names(name, args)
	case "tab_new":
		return b.newTable(args[0].S, args[1].S)
	}
	return b.table(name, args)
}

func (b *being) spawn(name string, f impl.Term) (impl.Term, *upward) {
	w := b.w
	if w.shelf == nil && !b.isToRun(f) || w.shelf != nil && !w.shelf.isToRun(f) {
		return f, goesError("badarg")
	}
	if w.living() >= 60 {
		return f, goesError("system_limit")
	}
	var child *being
	if w.shelf == nil {
		child = w.bear(b.pid, func(s *second) (impl.Term, *upward) { return s.apply(f, nil) })
	} else {
		child = w.bearOf(b.pid, f)
	}
	switch name {
	case "spawn_link":
		w.join(b.pid, child.pid)
	case "spawn_monitor":
		w.refs++
		w.monitors = append(w.monitors, watching{w.refs, b.pid, child.pid})
		return tuple(pid(child.pid), ref(w.refs)), nil
	}
	return pid(child.pid), nil
}

// isToRun tells whether a Fun is a fun of the tree without arguments, or refers to such a function of the module.
func (b *being) isToRun(f impl.Term) bool {
	if f.N >= len(b.all) {
		return false
	}
	p := b.all[f.N]
	switch p.Kind {
	case impl.NdFun:
		return p.kids[0].N == 0 && len(f.Kids) == len(holds(b.all, p))
	case impl.NdRefer:
		return p.N == 0 && len(f.Kids) == 0 && isDefinedIn(b.all, p.S, 0)
	}
	return false
}

func (b *being) touch(name string, args []impl.Term) (impl.Term, *upward) {
	w := b.w
	other := w.who(args[0].N)
	switch name {
	case "link":
		if other == nil {
			w.signal(b.pid, args[0].N, true, atom("noproc"))
			w.endAll()
		} else if other != b {
			w.join(b.pid, other.pid)
		}
	case "unlink":
		w.part(b.pid, args[0].N)
	case "monitor":
		w.refs++
		if other == nil {
			w.give(b.pid, tuple(atom("down"), ref(w.refs), args[0], atom("noproc")))
		} else {
			w.monitors = append(w.monitors, watching{w.refs, b.pid, other.pid})
		}
		return ref(w.refs), nil
	case "demonitor":
		w.monitors = slices.DeleteFunc(w.monitors, func(m watching) bool { return m.by == b.pid && m.ref == args[0].N })
	case "exit":
		w.signal(args[0].N, b.pid, false, args[1])
		w.endAll()
	}
	return b.or(yes(true))
}

func (b *being) timer(name string, args []impl.Term) (impl.Term, *upward) {
	w := b.w
	if name == "cancel_timer" {
		i := slices.IndexFunc(w.dues, func(d dueThing) bool { return d.ref == args[0].N && d.ref > 0 })
		if i < 0 {
			return yes(false), nil
		}
		left := w.dues[i].at - w.now
		w.dues = slices.Delete(w.dues, i, i+1)
		return num(left), nil
	}
	if !isTime(args[0]) || args[1].Kind != impl.TmPid && args[1].Kind != impl.TmAtom {
		return args[0], goesError("badarg")
	}
	letters := 0
	for _, d := range w.dues {
		if d.ref > 0 {
			letters++
		}
	}
	if letters >= 200 {
		return args[0], goesError("system_limit")
	}
	w.refs++
	w.dues = append(w.dues, dueThing{at: w.now + args[0].N, ref: w.refs, by: b.pid, to: args[1], letter: args[2]})
	return ref(w.refs), nil
}

func (b *being) set(name, to string) (impl.Term, *upward) {
	if name == "trap_exit" {
		if to != "true" && to != "false" {
			return impl.Term{}, goesError("badarg")
		}
		was := b.trap
		b.trap = to == "true"
		return yes(was), nil
	}
	prios := []string{"high", "normal", "low"}
	if !slices.Contains(prios, to) {
		return impl.Term{}, goesError("badarg")
	}
	was := prios[b.prio]
	b.prio = slices.Index(prios, to)
	return atom(was), nil
}

func (b *being) names(name string, args []impl.Term) (impl.Term, *upward) {
	w := b.w
	holder := w.named(args[0].S)
	switch name {
	case "whereis":
		if holder == nil {
			return atom("undefined"), nil
		}
		return pid(holder.pid), nil
	case "unregister":
		if holder == nil {
			return impl.Term{}, goesError("badarg")
		}
		holder.name = ""
		return yes(true), nil
	}
	other := w.who(args[1].N)
	if args[0].S == "undefined" || holder != nil || other == nil || other.name != "" {
		return impl.Term{}, goesError("badarg")
	}
	other.name = args[0].S
	return yes(true), nil
}

func (b *being) newTable(name, kind string) (impl.Term, *upward) {
	w := b.w
	kinds := map[string]int{"set": impl.TbSet, "bag": impl.TbBag, "log": impl.TbLog}
	taken := slices.ContainsFunc(w.tables, func(t sharedTable) bool { return t.name == name })
	switch {
	case kinds[kind] == 0 || taken:
		return impl.Term{}, goesError("badarg")
	case len(w.tables) >= 20:
		return impl.Term{}, goesError("system_limit")
	}
	w.tables = append(w.tables, sharedTable{name, b.pid, impl.Table{Type: kinds[kind]}})
	return yes(true), nil
}

func (b *being) table(name string, args []impl.Term) (impl.Term, *upward) {
	w := b.w
	at := slices.IndexFunc(w.tables, func(t sharedTable) bool { return t.name == args[0].S })
	if at < 0 {
		return impl.Term{}, goesError("badarg")
	}
	t := &w.tables[at]
	v, code := yes(true), 0
	var rows []impl.Term
	after := t.Table
	switch name {
	case "tab_size":
		v = num(len(t.Rows))
	case "tab_put":
		after, code = tabPutByWords(t.Table, args[1])
	case "tab_drop":
		after, code = tabDropByWords(t.Table, args[1])
	case "tab_get":
		rows, code = tabGetByWords(t.Table, args[1])
		v = list(rows...)
	case "tab_select":
		rows, code = tabSelectByWords(t.Table, args[1])
		v = list(rows...)
	}
	switch code {
	case impl.ErrBad:
		return v, goesError("badarg")
	case impl.ErrFull:
		return v, goesError("system_limit")
	}
	t.Table = after
	return right(v)
}
