package tests

import (
	"fmt"
	"math/rand"
	"slices"
	"strings"
	"testing"

	"loop.example/g00019/impl"
)

// Codes that Verify refuses, each of the two.
func TestDiffOfCodeThatIsNoneP17(t *testing.T) {
	good := codeOf("f/0 0: Push 1; Return")
	if got := diff(t, good, good); got != "f/0 same" {
		t.Error(got)
	}
	bad := map[string]impl.Code{"zero": {}, "no module's name": {Fns: good.Fns, Ins: good.Ins}, "not sound": codeOf("f/0 0: Push 1; Push 2; Return"), "a field too many": copiedCode(good), "two alike": codeOf("f/0 0: Push 1; Return\nf/0 0: Push 1; Return")}
	bad["a field too many"].Ins[1].C = 1
	for what, code := range bad {
		for _, pair := range [][2]impl.Code{{good, code}, {code, good}, {code, code}} {
			if row, wrong := impl.Diff(pair[0], pair[1]); wrong != impl.ErrBad || len(row) != 0 {
				t.Error(what, row, wrong)
			}
		}
	}
	empty := impl.Code{Name: "m"}
	differs(t, empty, empty, "", "")
	differs(t, empty, good, "f/0 new", "f/0 gone")
	other := copiedCode(good)
	other.Name = "n"
	differs(t, good, other, "f/0 same", "f/0 same")
}

// What is told, in which order; blocks without a Name are passed over, and one Name may have two Arities.
func TestEntriesInOrderP17(t *testing.T) {
	old := codeOf("d/0 0: Push 1; Return\nc/0 0: Push 1; Return\nb/1 0: Return\na/0 0: Push 1; Return\nb/0 0: Push 1; Return\nfun/0 0 0: Push 7; Return\nfun/1 0 0: Return")
	new := codeOf("y/0 0: Push 1; Return\nb/2 0: Cut 1; Return\na/0 0: Push 2; Return\nx/3 0: Cut 1; Return\nb/0 0: Push 1; Return\nd/0 0: Push 1; Return\nc/0 0: Push 3; Return\nfun/0 0 0: Push 8; Return")
	differs(t, old, new, "d/0 same; c/0 changed; b/1 gone; a/0 changed; b/0 same; y/0 new; b/2 new; x/3 new", "y/0 gone; b/2 gone; a/0 changed; x/3 gone; b/0 same; d/0 same; c/0 changed; b/1 new")
	differs(t, codeOf("f/1 0: Return\nf/2 0: Cut 1; Return"), codeOf("f/2 0: Cut 1; Return\nf/1 0: Return"), "f/1 same; f/2 same", "f/2 same; f/1 same")
	differs(t, codeOf("f/1 0: Return\nf/2 0: Cut 1; Return"), codeOf("f/2 0: Cut 1; Return"), "f/1 gone; f/2 same", "f/2 same; f/1 new")
}

// fieldValues is what the fields of an operation may be in the next test.
func fieldValues(row opRow, field rune) []string {
	switch field {
	case 'A':
		if row.name == "Step" {
			return []string{"2", "3"}
		}
		return []string{"one", "two"}
	case 'B':
		return []string{"0", "1", "2"}
	case 'V':
		return []string{"1", "x", "[1]", "#f0{1}"}
	case 'C':
		return []string{"0", "1", "2", "3", "4", "8", "9", "10"}
	}
	return map[string][]string{
		"Take": {"int", "binary"}, "Put": {"int", "binary"}, "Operate": {"+", "or"}, "Unary": {"-", "not"}, "Also": {"andalso", "orelse"},
		"Builtin": {"exit", "hd", "self", "element"}, "Remote": {"m:f", "n:f", "m:g"}, "Fail": {"oops", "ouch"},
	}[row.name]
}

// variants is sound codes whose f have an instruction of an operation with all sorts of fields, else the same ones, and those instructions.
func variants(row opRow) (codes []impl.Code, ins []impl.Ins) {
	texts := []string{row.name}
	for _, field := range row.fields {
		var more []string
		for _, text := range texts {
			for _, v := range fieldValues(row, field) {
				more = append(more, text+" "+v)
			}
		}
		texts = more
	}
	ended := ""
	if row.name == "Try" || row.name == "Guard" {
		ended = "Ended; "
	}
	for _, text := range texts {
		code := codeOf("f/2 3: Load 0; Load 0; Load 0; Load 0; Load 0; Load 0; " + text + "; " + ended + `Cut 0; Push 1; Return
one: Fail 0 a
two: Fail 0 a
g/0 0: Push 1; Return
h/0 0: Push 1; Return
fun/0 0 0: Push 1; Return
fun/0 0 0: Push 2; Return`)
		if wrong, _ := impl.Verify(code); wrong == impl.OK {
			codes, ins = append(codes, code), append(ins, code.Ins[6])
		}
	}
	return codes, ins
}

// fieldsApart is the fields in which two instructions differ.
func fieldsApart(a, b impl.Ins) string {
	apart := ""
	for _, f := range []struct {
		name string
		is   bool
	}{{"O", a.Op != b.Op}, {"A", a.A != b.A}, {"B", a.B != b.B}, {"C", a.C != b.C}, {"S", a.S != b.S}, {"V", !same(a.V, b.V)}} {
		if f.is {
			apart += f.name
		}
	}
	return apart
}

// Each field of an instruction, changed alone, of each operation that has it; the operation alone, too.
func TestFieldsOfInstructionsP17(t *testing.T) {
	t.Parallel()
	seen := map[string]int{}
	var all []impl.Code
	var those []impl.Ins
	for _, row := range opRows[1:] {
		codes, ins := variants(row)
		for i := range codes {
			for k := range codes {
				want := "f/2 changed; g/0 same; h/0 same"
				apart := fieldsApart(ins[i], ins[k])
				if apart == "" {
					want = "f/2 same; g/0 same; h/0 same"
				}
				if len(apart) < 2 {
					seen[row.name+" "+apart]++
					if got := diff(t, codes[i], codes[k]); got != want {
						t.Errorf("%s and %s: %s", insText(ins[i]), insText(ins[k]), got)
					}
				}
			}
		}
		for _, field := range row.fields {
			if seen[row.name+" "+string(field)] == 0 {
				t.Error("no two of", row.name, "with another", string(field))
			}
		}
		all, those = append(all, codes...), append(those, ins...)
	}
	for i := range all {
		for k := range all {
			if fieldsApart(those[i], those[k]) == "O" {
				seen["operation"]++
				if got := diff(t, all[i], all[k]); got != "f/2 changed; g/0 same; h/0 same" {
					t.Errorf("%s and %s: %s", insText(those[i]), insText(those[k]), got)
				}
			}
		}
	}
	if seen["operation"] < 50 {
		t.Error(seen)
	}
}

// Each field of a block, changed alone: of one with a Name, and of one without that it makes a Fun of. Nodes and places don't count.
func TestFieldsOfBlocksP17(t *testing.T) {
	text := "f/0 2: Push 1; Push 2; Fun 1; Cut 0; Push 3; Return\nfun/0 2 0: Push 1; Return\nfun/1 2 0: Return"
	old := codeOf(text)
	for what, spoil := range map[string]func(c *impl.Code){
		"Export": func(c *impl.Code) { c.Fns[0].Export = true }, "Slots": func(c *impl.Code) { c.Fns[0].Slots++ }, "no Slots": func(c *impl.Code) { c.Fns[0].Slots = 0 },
		"Slots of the fun": func(c *impl.Code) { c.Fns[1].Slots++ }, "Held": func(c *impl.Code) { c.Fns[1].Held = 2 }, "Held 1": func(c *impl.Code) { c.Fns[1].Held = 1 },
		"one more behind": func(c *impl.Code) { *c = codeOf(strings.Replace(text, "Return\nfun/0", "Return; Fail 0 a\nfun/0", 1)) },
		"of the fun": func(c *impl.Code) {
			*c = codeOf(strings.Replace(text, "Push 1; Return\nfun/1", "Push 1; Return; Fail 0 a\nfun/1", 1))
		},
	} {
		new := copiedCode(old)
		spoil(&new)
		if got := diff(t, old, new); got != "f/0 changed" || diff(t, new, old) != got {
			t.Error(what, got)
		}
	}
	for what, spoil := range map[string]func(c *impl.Code){
		"Node": func(c *impl.Code) { c.Fns[0].Node = 1999 }, "Nodes of the funs": func(c *impl.Code) { c.Fns[1].Node, c.Fns[2].Node = 5, 1000 }, "the module's Name": func(c *impl.Code) { c.Name = "other" },
		"another fun": func(c *impl.Code) { c.Fns[2].Slots, c.Fns[2].Held = 9, 1 }, "no other fun": func(c *impl.Code) { *c = codeOf(strings.TrimSuffix(text, "\nfun/1 2 0: Return")) }, "Refers": func(c *impl.Code) { c.Refers = []impl.CodeRef{{Node: 50, Name: "a"}} },
	} {
		new := copiedCode(old)
		spoil(&new)
		if got := diff(t, old, new); got != "f/0 same" || diff(t, new, old) != got {
			t.Error(what, got)
		}
	}
	// Arity: of a Name it is another function; of a fun it tells apart.
	differs(t, old, codeOf(strings.Replace(text, "f/0", "f/1", 1)), "f/0 gone; f/1 new", "f/1 gone; f/0 new")
	differs(t, codeOf("f/0 0: Fun 1; Return\nfun/0 0 0: Fail 0 a"), codeOf("f/0 0: Fun 1; Return\nfun/1 0 0: Fail 0 a"), "f/0 changed", "f/0 changed")
	// The Held of a Fun that is not made does not count, nor does a fun that is.
	differs(t, codeOf("f/0 0: Push 1; Return\nfun/0 0 0: Fail 0 a"), codeOf("f/0 0: Push 1; Return\nfun/1 3 2: Fail 0 b"), "f/0 same", "f/0 same")
}

// A block that moves as a whole stays the same: places are counted from its begin, numbers are not.
func TestBlocksThatMoveP17(t *testing.T) {
	body := "Step 3; Push true; Also one orelse; Push [1]; Gen 0; next: Next two; Drop; Jump next; two: Push x; Jump one; Fail 0 a; one: Tuple 1; three: Return"
	one, ahead := "f/0 1: "+body, "g/0 0: Push 1; Push 2; Operate +; Return"
	differs(t, codeOf(one), codeOf(ahead+"\n"+one), "f/0 same; g/0 new", "g/0 gone; f/0 same")
	differs(t, codeOf(one+"\n"+ahead), codeOf(ahead+"\n"+one), "f/0 same; g/0 same", "g/0 same; f/0 same")
	// As much further on as the block is: a place is the same then, a number is another one.
	for _, x := range [][2]string{{"Step 3", "Step 7"}, {"Also one", "Also three"}, {"Jump one", "Jump three"}} {
		other := strings.Replace(one, x[0], x[1], 1)
		for _, pair := range [][2]string{{one, other}, {other, one}} {
			differs(t, codeOf(pair[0]), codeOf(ahead+"\n"+pair[1]), "f/0 changed; g/0 new", "g/0 gone; f/0 changed")
		}
	}
	// The same numbers in A, of places of blocks that stand elsewhere.
	low := codeOf("f/0 0: Jump a; Push 1; Push 2; Push 3; Push 4; a: Push 5; Return\ng/0 0: Push 1; Return")
	high := codeOf("g/0 0: Push 1; Return\nf/0 0: Jump b; Push 1; Push 2; b: Push 3; Return; Push 4; Return")
	if low.Ins[0].A != high.Ins[2].A {
		t.Fatal("not the same place")
	}
	differs(t, low, high, "f/0 changed; g/0 same", "g/0 same; f/0 changed")
}

// C of OpCall: which function it is, wherever that lies.
func TestDiffOfCallsP17(t *testing.T) {
	f := func(k int) string { return fmt.Sprintf("f/0 0: Push 1; Call %d; Return\n", k) }
	g, h, g2 := "g/1 0: Return\n", "h/1 0: Push 2; Tuple 2; Return\n", "g/2 0: Cut 1; Return\n"
	differs(t, codeOf(f(1)+g+h), codeOf(f(2)+h+g), "f/0 same; g/1 same; h/1 same", "f/0 same; h/1 same; g/1 same")
	differs(t, codeOf(f(1)+g+h), codeOf(g+h+f(0)), "f/0 same; g/1 same; h/1 same", "g/1 same; h/1 same; f/0 same")
	differs(t, codeOf(f(1)+g+h), codeOf(f(1)+h+g), "f/0 changed; g/1 same; h/1 same", "f/0 changed; h/1 same; g/1 same")
	differs(t, codeOf(f(1)+g+h), codeOf(f(2)+g+h), "f/0 changed; g/1 same; h/1 same", "f/0 changed; g/1 same; h/1 same")
	// What is called may have changed itself, or be of another Arity.
	differs(t, codeOf(f(1)+g), codeOf(f(1)+"g/1 0: Tuple 1; Return"), "f/0 same; g/1 changed", "f/0 same; g/1 changed")
	two := "f/0 0: Push 1; Push 1; Call %d; Cut 0; Push 1; Return\n"
	differs(t, codeOf(fmt.Sprintf(two, 1)+g+g2), codeOf(fmt.Sprintf(two, 2)+g+g2), "f/0 changed; g/1 same; g/2 same", "f/0 changed; g/1 same; g/2 same")
	// Functions that call themselves and one another.
	rounds := codeOf("f/0 0: Call 1; Return\ng/0 0: Call 0; Return")
	differs(t, rounds, codeOf("g/0 0: Call 1; Return\nf/0 0: Call 0; Return"), "f/0 same; g/0 same", "g/0 same; f/0 same")
	differs(t, rounds, codeOf("f/0 0: Call 0; Return\ng/0 0: Call 1; Return"), "f/0 changed; g/0 changed", "f/0 changed; g/0 changed")
}

// C of OpFun: blocks that are the same, at whatever place, and Funs within Funs, to any depth.
func TestDiffOfFunsP17(t *testing.T) {
	f := "f/0 0: Fun %d; Return\n"
	one, two := "fun/0 0 0: Push 1; Return\n", "fun/0 0 0: Push 2; Return\n"
	code := func(k int, blocks ...string) impl.Code { return codeOf(fmt.Sprintf(f, k) + strings.Join(blocks, "")) }
	differs(t, code(1, one, two), code(2, two, one), "f/0 same", "f/0 same")
	differs(t, code(1, one, two), code(1, two, one), "f/0 changed", "f/0 changed")
	differs(t, code(1, one, one), code(2, one, one), "f/0 same", "f/0 same")
	differs(t, code(1, one, two), code(2, one, two), "f/0 changed", "f/0 changed")
	// Within a Fun, and within one in that.
	outer, outermost := "fun/0 0 0: Fun %d; Tuple 1; Return\n", "fun/0 0 0: Fun %d; Fun %d; Tuple 2; Return\n"
	differs(t, code(1, fmt.Sprintf(outer, 2), one), code(2, two, fmt.Sprintf(outer, 3), one), "f/0 same", "f/0 same")
	differs(t, code(1, fmt.Sprintf(outer, 2), one), code(2, two, fmt.Sprintf(outer, 1), one), "f/0 changed", "f/0 changed")
	deep := func(a, b, c int, inner string) impl.Code {
		return code(1, fmt.Sprintf(outermost, a, b), fmt.Sprintf(outer, c), one, inner)
	}
	differs(t, deep(2, 3, 4, two), deep(2, 3, 4, two), "f/0 same", "f/0 same")
	differs(t, deep(2, 3, 4, two), deep(2, 3, 4, one), "f/0 changed", "f/0 changed")
	differs(t, deep(2, 3, 4, two), deep(3, 2, 4, two), "f/0 changed", "f/0 changed")
	differs(t, deep(2, 3, 4, one), deep(2, 4, 3, one), "f/0 same", "f/0 same")
	// One Fun against two that are the same, and against two that are not.
	differs(t, code(1, fmt.Sprintf(outermost, 2, 2), one), code(1, fmt.Sprintf(outermost, 2, 3), one, one), "f/0 same", "f/0 same")
	differs(t, code(1, fmt.Sprintf(outermost, 2, 2), one), code(1, fmt.Sprintf(outermost, 2, 3), one, two), "f/0 changed", "f/0 changed")
	// What is told apart for one function is not for another, whichever is asked first.
	for _, row := range []string{"f 2 3; g 2 2; h 3 3", "g 2 2; f 2 3; h 3 3", "h 3 3; g 2 2; f 2 3"} {
		var old, new, want string
		for _, x := range strings.Split(row, "; ") {
			w := strings.Fields(x)
			old += w[0] + "/0 0: Fun " + "3; Fun " + w[1] + "; Tuple 2; Return\n"
			new += w[0] + "/0 0: Fun " + "3; Fun " + w[2] + "; Tuple 2; Return\n"
			want += w[0] + "/0 " + map[bool]string{true: "same", false: "changed"}[w[1] == w[2]] + "; "
		}
		old, new = strings.NewReplacer("Fun 2", "Fun 4").Replace(old), strings.NewReplacer("Fun 2", "Fun 4").Replace(new)
		want = strings.TrimSuffix(want, "; ")
		differs(t, codeOf(old+one+two), codeOf(new+one+two), want, want)
	}
}

// Funs that lead back to themselves, or in rounds: where nothing within tells them apart they are the same.
func TestDiffOfFunsInRoundsP17(t *testing.T) {
	f := "f/0 0: Fun 1; Return\n"
	self := "fun/0 0 0: Fun 1; Return\n"
	rounds := func(vs ...string) impl.Code { // each makes the next one, the last one the first
		text := f
		for i, v := range vs {
			text += fmt.Sprintf("fun/0 0 0: Push %s; Fun %d; Tuple 2; Return\n", v, 1+(i+1)%len(vs))
		}
		return codeOf(text)
	}
	differs(t, codeOf(f+self), codeOf(f+self), "f/0 same", "f/0 same")
	differs(t, codeOf(f+self), codeOf(f+"fun/0 0 0: Fun 2; Return\nfun/0 0 0: Fun 1; Return"), "f/0 same", "f/0 same")
	differs(t, codeOf(f+self), codeOf(f+"fun/0 0 0: Fun 2; Return\nfun/0 0 0: Fun 3; Return\nfun/0 0 0: Fun 2; Return"), "f/0 same", "f/0 same")
	differs(t, codeOf(f+self), codeOf(f+"fun/0 0 0: Fun 2; Return\nfun/0 0 0: Push 1; Return"), "f/0 changed", "f/0 changed")
	differs(t, rounds("1"), rounds("1", "1", "1"), "f/0 same", "f/0 same")
	differs(t, rounds("1", "2"), rounds("1", "2", "1", "2"), "f/0 same", "f/0 same")
	differs(t, rounds("1", "2"), rounds("2", "1"), "f/0 changed", "f/0 changed")
	differs(t, rounds("1", "2"), rounds("1", "2", "1"), "f/0 changed", "f/0 changed")
	differs(t, rounds("1", "1", "1"), rounds("1", "1"), "f/0 same", "f/0 same")
	differs(t, rounds("1", "1", "1", "1", "2"), rounds("1", "1", "1", "1", "3"), "f/0 changed", "f/0 changed")
}

// withRefers is code that refers to functions, as the rows say: 3 g/1.
func withRefers(code impl.Code, rows ...string) impl.Code {
	for _, row := range rows {
		var r impl.CodeRef
		node, name, _ := strings.Cut(row, " ")
		name, arity, _ := strings.Cut(name, "/")
		r.Name = name
		fmt.Sscan(node, &r.Node)
		fmt.Sscan(arity, &r.Arity)
		code.Refers = append(code.Refers, r)
	}
	return code
}

// V of OpPush: Funs without Kids that are the Node of a CodeRef of both codes, of one alone, of none, of other functions; all else as terms.
func TestDiffOfReferredFunsP17(t *testing.T) {
	push := func(v string, refers ...string) impl.Code {
		return withRefers(codeOf("f/0 0: Push "+v+"; Return\nfun/0 0 0: Push 1; Return\nfun/0 0 0: Push 1; Return"), refers...)
	}
	for _, x := range []struct {
		old, new impl.Code
		what     string
	}{
		{push("#f5{}", "5 g/1"), push("#f5{}", "5 g/1"), "same"}, {push("#f5{}", "5 g/1"), push("#f9{}", "9 g/1"), "same"}, {push("#f5{}", "5 g/1", "9 h/1"), push("#f9{}", "5 h/1", "9 g/1"), "same"}, {push("#f5{}", "5 g/1", "6 g/1"), push("#f6{}", "5 g/1", "6 g/1"), "same"},
		{push("#f5{}", "5 g/1"), push("#f5{}", "5 g/2"), "changed"}, {push("#f5{}", "5 g/1"), push("#f5{}", "5 h/1"), "changed"}, {push("#f5{}", "5 g/1", "9 h/1"), push("#f5{}", "5 h/1", "9 g/1"), "changed"},
		{push("#f5{}", "5 g/1"), push("#f5{}"), "changed"}, {push("#f5{}", "5 g/1"), push("#f5{}", "9 g/1"), "changed"}, {push("#f5{}", "5 g/1"), push("#f9{}"), "changed"}, {push("#f5{}", "5 g/1"), push("g", "5 g/1"), "changed"}, {push("#f5{}", "5 g/1"), push("5", "5 g/1"), "changed"},
		{push("#f5{}"), push("#f5{}"), "same"}, {push("#f5{}"), push("#f9{}"), "changed"}, {push("#f5{}", "9 g/1"), push("#f5{}", "8 g/1"), "same"},
		// With Kids, and within other terms, they are terms.
		{push("#f5{1}", "5 g/1"), push("#f5{1}", "9 g/1"), "same"}, {push("#f5{1}", "5 g/1"), push("#f9{1}", "9 g/1"), "changed"}, {push("#f5{}", "5 g/1"), push("#f9{1}", "9 g/1"), "changed"}, {push("#f5{1}", "5 g/1"), push("#f9{}", "9 g/1"), "changed"}, {push("#f5{}", "5 g/1"), push("#f5{1}", "5 g/1"), "changed"},
		{push("[#f5{}]", "5 g/1"), push("[#f5{}]", "9 g/1"), "same"}, {push("[#f5{}]", "5 g/1"), push("[#f9{}]", "9 g/1"), "changed"},
		// The Node of a block is none of a CodeRef; numbers that no Node has are.
		{push("#f1{}"), push("#f1{}"), "same"}, {push("#f1{}"), push("#f2{}"), "changed"}, {push("#f5000{}"), push("#f5000{}"), "same"}, {push("#f2005{}", "5 g/1"), push("#f2005{}", "9 g/1"), "same"}, {push("#f2005{}", "5 g/1"), push("#f5{}", "5 g/1"), "changed"},
	} {
		differs(t, x.old, x.new, "f/0 "+x.what, "f/0 "+x.what)
	}
	// Other instructions hold them as terms.
	is := func(v string, refers ...string) impl.Code {
		return withRefers(codeOf("f/1 0: Is a 0 "+v+"; Push 1; Return\na: Fail 0 a\ng/1 0: Get b 0 "+v+"; Cut 1; Return\nb: Fail 0 a"), refers...)
	}
	differs(t, is("#f5{}", "5 g/1"), is("#f5{}", "9 h/2"), "f/1 same; g/1 same", "f/1 same; g/1 same")
	differs(t, is("#f5{}", "5 g/1"), is("#f9{}", "9 g/1"), "f/1 changed; g/1 changed", "f/1 changed; g/1 changed")
	// Terms are held against each other whole.
	for _, x := range []impl.Term{list(num(1), tuple(atom("a"))), dict(num(1), atom("a")), bin("ab"), many(num(1), 300)} {
		old, new := push("1"), push("1")
		old.Ins[0].V, new.Ins[0].V = x, copiedTerm(x)
		differs(t, old, new, "f/0 same", "f/0 same")
		if len(x.Kids) > 0 {
			new.Ins[0].V.Kids[len(x.Kids)-1] = atom("z")
		} else {
			new.Ins[0].V.S += "c"
		}
		differs(t, old, new, "f/0 changed", "f/0 changed")
	}
}

// What two texts become: functions that are added, dropped, changed, moved.
func TestDiffOfTextsP17(t *testing.T) {
	code := func(forms string) impl.Code { return compiled(t, parsed(t, "module m. "+forms)) }
	old := code("export f/1. f(X) -> g(X), fun() -> g(X) end. g(X) -> [{X, Y} || Y <- [1, 2], Y > 1]. h() -> fun h/0. k(X) -> try hd(X) catch _:_ -> receive A -> A after 5 -> none end end.")
	for forms, want := range map[string]string{
		"export f/1. k(X) -> try hd(X) catch _:_ -> receive A -> A after 5 -> none end end. h() -> fun h/0. new(A) -> {A, fun new/1}. g(X) -> [{X, Y} || Y <- [1, 2], Y > 1]. f(X) -> g(X), fun() -> g(X) end.": "f/1 same; g/1 same; h/0 same; k/1 same; new/1 new",
		"export f/1. f(Long) -> g(Long), fun() -> g(Long) end. g(X1) -> [{X1, Y1} || Y1 <- [1, 2], Y1 > 1].":                                                                                                    "f/1 same; g/1 same; h/0 gone; k/1 gone",
		"f(X) -> g(X), fun() -> g(X) end. g(X) -> [{X, Y} || Y <- [1, 3], Y > 1]. h() -> fun k/0. k() -> 1. k(X) -> try hd(X) catch _:_ -> receive A -> A after 6 -> none end end.":                             "f/1 changed; g/1 changed; h/0 changed; k/1 changed; k/0 new",
		"export f/1. f(X) -> g(X), fun() -> g({X}) end. g(X) -> [{Y, X} || Y <- [1, 2], Y > 1]. h() -> fun() -> h() end. k(X) -> try hd(X) catch _:_ -> receive A -> A end end.":                                "f/1 changed; g/1 changed; h/0 changed; k/1 changed",
	} {
		if got := diff(t, old, code(forms)); got != want {
			t.Errorf("%s\n%s\nnot %s", forms, got, want)
		}
	}
}

// roomyCode is a copy of code with room behind each of its lists, in which something stands.
func roomyCode(c impl.Code) impl.Code {
	c = copiedCode(c)
	for i := range c.Ins {
		c.Ins[i].V.Kids = roomyRow(c.Ins[i].V.Kids)
	}
	c.Fns = append(c.Fns, impl.CodeFn{Name: "room", Arity: 9})[:len(c.Fns)]
	c.Refers = append(c.Refers, impl.CodeRef{Node: 9, Name: "room"})[:len(c.Refers)]
	c.Ins = append(c.Ins, impl.Ins{Op: 99, V: num(9)})[:len(c.Ins)]
	return c
}

// wideCode is code with what stands behind each of its lists.
func wideCode(c impl.Code) impl.Code {
	c.Fns, c.Refers, c.Ins = slices.Clone(c.Fns[:len(c.Fns)+1]), slices.Clone(c.Refers[:len(c.Refers)+1]), slices.Clone(c.Ins[:len(c.Ins)+1])
	for i := range c.Ins {
		c.Ins[i].V.Kids = wideRow(c.Ins[i].V.Kids)
	}
	return c
}

// Nothing is written into the codes, nor into the room behind them; what is answered is new.
func TestDiffWritesNothingP17(t *testing.T) {
	tree := parsed(t, "module m. export f/1. f(X) -> g([X, fun g/1, fun() -> fun() -> {X, [1, {a, \"bc\"}]} end end]). g(X) -> [1, 2 | X].")
	old := roomyCode(compiled(t, tree))
	new := roomyCode(compiled(t, parsed(t, "module m. g(X) -> [1, 2 | X]. f(X) -> g([X, fun g/1, fun() -> fun() -> {X, [1, {a, \"bd\"}]} end end]).")))
	olds, news := wideCode(old), wideCode(new)
	row, wrong := impl.Diff(old, new)
	if wrong != impl.OK || entries(row) != "f/1 changed; g/1 same" {
		t.Error(entries(row), wrong)
	}
	if !sameCode(wideCode(old), olds) || !sameCode(wideCode(new), news) {
		t.Error("writes into the codes or behind them")
	}
	again, _ := impl.Diff(old, new)
	again[0].Name = "other"
	if more, _ := impl.Diff(old, new); row[0].Name != "f" || more[0].Name != "f" {
		t.Error("answers share memory")
	}
}

// Codes by chance: what modules become, spoilt, polished, with their functions in another order, and others.
func TestDiffByChanceP17(t *testing.T) {
	t.Parallel()
	r := &speaker{chance: newChance(114)}
	seen := map[string]int{}
	modules := spokenModules(t, 700)
	for i, m := range modules {
		old := compiled(t, flat(m))
		one := nModule("m", nExport("f", 2), nFunc("k", 0, nPlain(nFun(nPlain(nAtom("a"))))))
		one.kids = append(one.kids, m.kids[2], m.kids[1])
		polished, _ := impl.Polish(old)
		others := []impl.Code{old, polished, compiled(t, flat(modules[(i+1)%len(modules)])), compiled(t, flat(one))}
		for range 8 {
			others = append(others, r.spoiltCode(old), r.spoiltCode(others[3]))
		}
		for _, new := range others {
			if wrong, _ := impl.Verify(new); wrong != impl.OK {
				if row, code := impl.Diff(old, new); code != impl.ErrBad || len(row) != 0 {
					t.Fatal(row, code)
				}
				continue
			}
			for _, word := range strings.Fields(strings.ReplaceAll(diff(t, old, new)+"; "+diff(t, new, old), ";", "")) {
				seen[word]++
			}
		}
	}
	tallied(t, seen, 300, "same changed gone new")
}

// webbed is code whose funs make two others each, by chance; nothing but the last one's term tells any apart.
func webbed(r *rand.Rand, funs int, last string) impl.Code {
	var text strings.Builder
	const names = 400
	for i := range names {
		fmt.Fprintf(&text, "f%d/0 0: Fun %d; Return\n", i, names+r.Intn(funs))
	}
	for i := range funs {
		v := "1"
		if i == funs-1 {
			v = last
		}
		fmt.Fprintf(&text, "fun/0 0 0: Fun %d; Drop; Fun %d; Push %s; Tuple 2; Return\n", names+r.Intn(funs), names+r.Intn(funs), v)
	}
	return codeOf(text.String())
}

// Many funs that lead to one another in all ways: it ends soon, and says what holds.
func TestDiffOfManyFunsP17(t *testing.T) {
	r := rand.New(rand.NewSource(115))
	for _, x := range []struct{ old, new, what string }{{"1", "1", "same"}, {"2", "3", "changed"}} {
		old, new := webbed(r, 1600, x.old), webbed(r, 1500, x.new)
		row, wrong := impl.Diff(old, new)
		if wrong != impl.OK || len(row) != 400 {
			t.Fatal(len(row), wrong)
		}
		if n := strings.Count(entries(row), x.what); n < 390 {
			t.Error(n, "of 400 are", x.what)
		}
	}
	small, other := webbed(r, 12, "1"), webbed(r, 9, "1")
	if got := diff(t, small, other); strings.Count(got, "same") != 400 {
		t.Error(got)
	}
}
