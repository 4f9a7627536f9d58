package tests

import (
	"fmt"
	"maps"
	"slices"
	"strings"
	"testing"

	"loop.example/g00019/impl"
)

// looked asks what Verify tells of code: as said, and as the second reading says.
func looked(t *testing.T, what string, code impl.Code, wrong int, at int) {
	t.Helper()
	if c, a := impl.Verify(code); c != wrong || a != at {
		t.Errorf("Verify of %s\nis %d at %d, not %d at %d\n%s", what, c, a, wrong, at, listing(code))
	}
	if c, a := verifyByWords(code); c != wrong || a != at {
		t.Errorf("Verify of %s\nby the words is %d at %d, not %d at %d", what, c, a, wrong, at)
	}
}

func sound(t *testing.T, text string) {
	t.Helper()
	looked(t, text, codeOf(text), impl.OK, 0)
}

// unsound asks for the fault at the instruction at a place.
func unsound(t *testing.T, at int, text string) {
	t.Helper()
	looked(t, text, codeOf(text), impl.ErrCode, at)
}

// edges asks that a text with one thing in the place of its @ is sound, and with another one wrong at a place.
func edges(t *testing.T, at int, text string, well string, ill string) {
	t.Helper()
	for s := range strings.SplitSeq(well, "|") {
		sound(t, strings.ReplaceAll(text, "@", strings.TrimSpace(s)))
	}
	for s := range strings.SplitSeq(ill, "|") {
		unsound(t, at, strings.ReplaceAll(text, "@", strings.TrimSpace(s)))
	}
}

// wrongTables asks for ErrBad of code that was sound and is changed.
func wrongTables(t *testing.T, what string, text string, change func(c *impl.Code)) {
	t.Helper()
	code := codeOf(text)
	looked(t, text, code, impl.OK, 0)
	change(&code)
	looked(t, what, code, impl.ErrBad, 0)
}

// fitTables asks that it stays sound.
func fitTables(t *testing.T, what string, text string, change func(c *impl.Code)) {
	t.Helper()
	code := codeOf(text)
	change(&code)
	looked(t, what, code, impl.OK, 0)
}

const manyBlocks = `f/0 0: Fail 0 a
	g/1 2: Fail 0 a
	fun/1 2 2: Fail 0 a
	fun/0 0: Fail 0 a`

func TestTablesOfSoundCode(t *testing.T) {
	looked(t, "no code", impl.Code{}, impl.ErrBad, 0)
	looked(t, "a name alone", impl.Code{Name: "m"}, impl.OK, 0)
	names := []string{"a", strings.Repeat("a", 30), "aB_9", "int", "m"}
	wrong := []string{"", "A", "_", "9a", "a:b", "a b", "a\n", "é", strings.Repeat("a", 31)}
	wrong = append(wrong, strings.Fields(reservedByWords)...)
	for _, name := range names {
		fitTables(t, "module "+name, manyBlocks, func(c *impl.Code) { c.Name = name })
		fitTables(t, "block "+name, manyBlocks, func(c *impl.Code) { c.Fns[1].Name = name })
		fitTables(t, "refer "+name, manyBlocks, func(c *impl.Code) { c.Refers = []impl.CodeRef{{Node: 9, Name: name}} })
	}
	for _, name := range wrong {
		wrongTables(t, "module "+name, manyBlocks, func(c *impl.Code) { c.Name = name })
		wrongTables(t, "refer "+name, manyBlocks, func(c *impl.Code) { c.Refers = []impl.CodeRef{{Node: 9, Name: name}} })
		if name != "" {
			wrongTables(t, "block "+name, manyBlocks, func(c *impl.Code) { c.Fns[1].Name = name })
		}
	}
	wrongTables(t, "the nameless ahead", manyBlocks, func(c *impl.Code) { c.Fns[0].Name = "" })
	fitTables(t, "all nameless", manyBlocks, func(c *impl.Code) { c.Fns[0].Name, c.Fns[1].Name = "", "" })
	wrongTables(t, "a named one behind", manyBlocks, func(c *impl.Code) { c.Fns[3].Name = "h" })
	wrongTables(t, "a named one that holds", manyBlocks, func(c *impl.Code) { c.Fns[1].Held = 1 })
	fitTables(t, "one name, two arities", manyBlocks, func(c *impl.Code) { c.Fns[0].Name = "g" })
	fitTables(t, "one arity, two names", manyBlocks, func(c *impl.Code) { c.Fns[0].Arity = 1 })
	wrongTables(t, "twice", manyBlocks, func(c *impl.Code) { c.Fns[0].Name, c.Fns[0].Arity = "g", 1 })
	fitTables(t, "exported", manyBlocks, func(c *impl.Code) { c.Fns[0].Export, c.Fns[1].Export = true, true })
	wrongTables(t, "a fun exported", manyBlocks, func(c *impl.Code) { c.Fns[2].Export = true })
	fitTables(t, "nodes of functions fall", manyBlocks, func(c *impl.Code) { c.Fns[0].Node = 9 })
	wrongTables(t, "nodes of funs fall", manyBlocks, func(c *impl.Code) { c.Fns[2].Node = 9 })
	wrongTables(t, "nodes of funs alike", manyBlocks, func(c *impl.Code) { c.Fns[2].Node = 3 })
	wrongTables(t, "nodes of functions alike", manyBlocks, func(c *impl.Code) { c.Fns[0].Node = 1 })
	wrongTables(t, "node of a function and of a fun", manyBlocks, func(c *impl.Code) { c.Fns[0].Node = 3 })
	wrongTables(t, "node of a fun and of a refer", manyBlocks, func(c *impl.Code) { c.Refers = []impl.CodeRef{{Node: 3, Name: "a"}} })
	wrongTables(t, "node of a function and of a refer", manyBlocks, func(c *impl.Code) { c.Refers = []impl.CodeRef{{Node: 0, Name: "a"}} })
	fitTables(t, "refers rise", manyBlocks, func(c *impl.Code) {
		c.Refers = []impl.CodeRef{{Node: 8, Name: "b", Arity: 1}, {Node: 9, Name: "b", Arity: 1}}
	})
	wrongTables(t, "refers fall", manyBlocks, func(c *impl.Code) { c.Refers = []impl.CodeRef{{Node: 9, Name: "a"}, {Node: 8, Name: "b"}} })
	wrongTables(t, "refers alike", manyBlocks, func(c *impl.Code) { c.Refers = []impl.CodeRef{{Node: 9, Name: "a"}, {Node: 9, Name: "b"}} })
	for k := range 4 {
		for n, is := range map[int]bool{4: k != 2, 1999: k != 2, 2000: false, -1: false, 1 << 62: false} {
			looksSo(t, fmt.Sprint("node ", n, " of block ", k), is, func(c *impl.Code) { c.Fns[k].Node = n })
		}
		for n, is := range map[int]bool{0: true, 2000: true, 2001: false, -1: false, -1 << 62: false} {
			looksSo(t, fmt.Sprint("arity ", n, " of block ", k), is && (k > 1 || n == 0 || n == 2000), func(c *impl.Code) { c.Fns[k].Arity = n })
			looksSo(t, fmt.Sprint("slots ", n, " of block ", k), is && n >= codeOf(manyBlocks).Fns[k].Held, func(c *impl.Code) { c.Fns[k].Slots = n })
			looksSo(t, fmt.Sprint("held ", n, " of block ", k), n == 0, func(c *impl.Code) { c.Fns[k].Held = n })
			looksSo(t, fmt.Sprint("arity of a refer ", n), is, func(c *impl.Code) { c.Refers = []impl.CodeRef{{Node: 9, Name: "a", Arity: n}} })
		}
	}
	fitTables(t, "a refer at node 0", "", func(c *impl.Code) { c.Refers = []impl.CodeRef{{Name: "a"}} })
	for n, is := range map[int]bool{4: true, 1999: true, 2000: false, -1: false} {
		looksSo(t, fmt.Sprint("node of a refer ", n), is, func(c *impl.Code) { c.Refers = []impl.CodeRef{{Node: n, Name: "a"}} })
	}
	for n, is := range map[int]bool{0: true, 1: true, 2: true, 3: false, -1: false} {
		looksSo(t, fmt.Sprint("held ", n), is, func(c *impl.Code) { c.Fns[2].Held = n })
	}
	looksSo(t, "2000 held", true, func(c *impl.Code) { c.Fns[2].Held, c.Fns[2].Slots = 2000, 2000 })
}

// looksSo asks whether those blocks, changed, are right.
func looksSo(t *testing.T, what string, is bool, change func(c *impl.Code)) {
	t.Helper()
	if is {
		fitTables(t, what, manyBlocks, change)
	} else {
		wrongTables(t, what, manyBlocks, change)
	}
}

func TestPlacesOfBlocks(t *testing.T) {
	for k, ats := range map[int][]int{0: {-1, 1, 3, 4}, 1: {-1, 0, 2, 3, 4}, 2: {0, 1, 3, 4}, 3: {0, 2, 4, 5}} {
		for _, at := range ats {
			wrongTables(t, fmt.Sprint("block ", k, " at ", at), manyBlocks, func(c *impl.Code) { c.Fns[k].At = at })
		}
	}
	wrongTables(t, "no blocks", manyBlocks, func(c *impl.Code) { c.Fns = nil })
	wrongTables(t, "no blocks, one instruction", manyBlocks, func(c *impl.Code) { c.Fns, c.Ins = nil, c.Ins[:1] })
	wrongTables(t, "no instructions", manyBlocks, func(c *impl.Code) { c.Ins = nil })
	wrongTables(t, "one too few", manyBlocks, func(c *impl.Code) { c.Ins = c.Ins[:3] })
	fitTables(t, "one more", manyBlocks, func(c *impl.Code) { c.Ins = append(c.Ins, c.Ins[0]) })
	fill := func(n int) func(c *impl.Code) {
		return func(c *impl.Code) {
			for len(c.Ins) < n {
				c.Ins = append(c.Ins, c.Ins[0])
			}
		}
	}
	fitTables(t, "20000 instructions", manyBlocks, fill(20000))
	wrongTables(t, "20001 instructions", manyBlocks, fill(20001))
	// The tables come first.
	code := codeOf("f/0 0: Push 1; Dup; Drop")
	looked(t, "falls out of its block", code, impl.ErrCode, 2)
	code.Name = "of"
	looked(t, "and with a wrong name", code, impl.ErrBad, 0)
}

// Rule 1: operations, and fields that the table does not name.
func TestRuleOfFields(t *testing.T) {
	sample := map[string]string{ // code in which each operation stands, reached
		"Step": "Step 1", "Push": "Push 1", "Load": "Load 0", "Store": "Push 1; Store 0", "Pick": "Push 1; Pick 0; Drop; Drop", "Dup": "Push 1; Dup", "Drop": "Push 1; Drop", "Cut": "Cut 0", "Jump": "Jump e",
		"Is": "Push 1; Is e 0 1", "Same": "Push 1; Same e 0 0", "Untuple": "Push 1; Untuple e 0 0", "Unlist": "Push 1; Unlist e 0 0", "Untail": "Push 1; Untail e 0 0; Drop", "IsMap": "Push 1; IsMap e 0; Drop", "Get": "Push 1; Get e 0 1; Cut 0",
		"IsBin": "Push 1; IsBin e 0; Cut 0", "Take": "Push 1; Push 1; Take e 0 8 int; Cut 0", "End": "Push 1; Push 1; End e 0", "Tuple": "Tuple 0", "List": "List 0", "Cons": "Push 1; Cons 0", "Map": "Map 0 0", "Row": "Row", "Put": "Row; Push 1; Put 8 int", "Whole": "Row; Whole",
		"Join": "Row; Row; Join 0", "Add": "Push []; Push 1; Add 0", "Operate": "Push 1; Push 1; Operate +", "Unary": "Push 1; Unary -", "Also": "Push 1; Also e andalso; Push 1", "Call": "Call 0", "Builtin": "Builtin 0 self", "Remote": "Remote 0 a:b", "Apply": "Push 1; Apply 0", "Fun": "Fun 1",
		"Return": "Push 1; Return", "Fail": "Fail 0 a", "Raise": "Push 1; Push 1; Raise", "Resume": "Push 1; Push 1; Resume", "Try": "Try h; Ended; Jump e; h: Cut 0", "Guard": "Guard h; Ended; Jump e; h: Cut 0", "Ended": "Guard h; Ended; Jump e; h: Cut 0", "True": "Push 1; True",
		"Gen": "Push 1; Gen 0; Cut 0", "Next": "Push 1; Push 1; Next e; Cut 0", "More": "Push 1; Push 1; More e; Cut 0", "Took": "Push 1; Push 1; Push 1; Took e 0; Cut 0", "Filter": "Push 1; Filter e", "Send": "Push 1; Push 1; Send", "Mark": "Push 1; Mark", "Letter": "Letter e; Drop", "Taken": "Taken",
	}
	if len(sample) != 53 {
		t.Error(len(sample))
	}
	for name, text := range sample {
		code := codeOf("f/0 1: " + text + "; e: Fail 0 a\nfun/0 0: Fail 0 a")
		at := slices.IndexFunc(code.Ins, func(n impl.Ins) bool { return opRows[n.Op].name == name })
		looked(t, text, code, impl.OK, 0)
		for f, change := range map[string]func(n *impl.Ins){
			"A": func(n *impl.Ins) { n.A = 1 }, "B": func(n *impl.Ins) { n.B = 1 }, "C": func(n *impl.Ins) { n.C = 1 }, "S": func(n *impl.Ins) { n.S = "a" },
			"V": func(n *impl.Ins) { n.V = num(0) }, "V N": func(n *impl.Ins) { n.V.N = 1 }, "V S": func(n *impl.Ins) { n.V.S = "a" }, "V Kids": func(n *impl.Ins) { n.V.Kids = []impl.Term{{}} },
			"-A": func(n *impl.Ins) { n.A = -1 }, "-B": func(n *impl.Ins) { n.B = -1 }, "-C": func(n *impl.Ins) { n.C = -1 },
		} {
			if !strings.ContainsAny(f, opRows[code.Ins[at].Op].fields) {
				one := copiedCode(code)
				change(&one.Ins[at])
				looked(t, text+" with "+f, one, impl.ErrCode, at)
			}
		}
		code.Ins[at].V.Kids = slices.Clip(append([]impl.Term{}, code.Ins[at].V.Kids...)) // empty, not nil
		looked(t, text+" with empty Kids", code, impl.OK, 0)
	}
	for _, op := range []int{-1 << 63, -1, 0, 54, 100, 1<<63 - 1} {
		for _, text := range []string{"f/0 0: Taken; Fail 0 a", "f/0 0: Fail 0 a; Taken"} {
			code := codeOf(text)
			at := slices.IndexFunc(code.Ins, func(n impl.Ins) bool { return n.Op == impl.OpTaken })
			code.Ins[at].Op = op
			looked(t, fmt.Sprint("operation ", op), code, impl.ErrCode, at)
		}
	}
}

// Rule 2: where A leads.
func TestRuleOfPlaces(t *testing.T) {
	edges(t, 0, "f/0 0: Step @; Fail 0 a", "1|2|100000", "0|-1|100001")
	edges(t, 1, "f/0 0: Fail 0 a; Step @", "1|100000", "0|-1|100001")
	edges(t, 1, "f/0 0: Taken; Jump @; Taken; Taken; Fail 0 a\ng/0 0: Fail 0 a", "2|3|4", "0|1|-1|5|6|99999|9223372036854775807|-9223372036854775808")
	edges(t, 2, "f/0 0: Taken; Push 1; Filter @; Taken; Taken; Fail 0 a\ng/0 0: Fail 0 a", "3|4|5", "0|1|2|-1|6|7|99999")
	edges(t, 1, "f/0 0: Taken; Letter @; Drop; Taken; Fail 0 a\ng/0 0: Fail 0 a", "3|4", "0|1|-1|5|6|99999")
	// Of what is not reached, too; but there a jump may go anywhere in its block.
	edges(t, 2, "f/0 1: Push 1; Return; Jump @; Fail 0 a\ng/0 0: Fail 0 a", "0|1|2|3", "-1|4|5")
	edges(t, 2, "g/0 0: Fail 0 a\nf/0 1: Fail 0 a; Jump @; Fail 0 a\nh/0 0: Fail 0 a", "1|2|3", "0|4|5|-1")
	for _, ins := range []string{"Is @ 0 1", "Same @ 0 0", "Untuple @ 0 0", "Unlist @ 0 0", "Untail @ 0 0", "IsMap @ 0", "Get @ 0 1", "IsBin @ 0", "Take @ 0 0 int", "End @ 0", "Also @ orelse", "Try @", "Guard @", "Next @", "More @", "Took @ 0", "Filter @", "Letter @"} {
		edges(t, 3, "g/0 0: Fail 0 a\nf/0 1: Push 1; Return; "+ins+"; Taken; Return\nh/0 0: Fail 0 a", "4|5", "3|2|1|0|6|-1|7")
	}
	// Back to where a loop begins, when that is reached.
	for _, loop := range []string{"Next @", "More @", "Letter @"} {
		sound(t, "f/2 0: Jump l; l: "+strings.Replace(loop, "@", "out", 1)+"; Cut 2; Jump l; out: Fail 0 a")
		unsound(t, 4, "f/2 0: Taken; k: Jump l; l: "+strings.Replace(loop, "@", "out", 1)+"; Cut 2; Jump k; out: Fail 0 a")
	}
	unsound(t, 2, "f/2 0: l: Taken; Taken; Jump l")
	unsound(t, 1, "f/2 0: Taken; l: Jump l")
	unsound(t, 4, "f/2 0: Jump k; l: Next out; Jump l; k: Taken; Jump l; out: Fail 0 a")
	sound(t, "f/2 0: Next out; Drop; Jump 0; out: Fail 0 a")
	unsound(t, 5, "f/2 0: Next out; Drop; Jump 0; out: Fail 0 a\ng/2 0: Taken; Jump 0")
}

// Rule 3: terms, and how many values are left when something fails.
func TestRuleOfTermsAndHeights(t *testing.T) {
	for _, text := range []string{"f/0 0: Push 1; Return; Fail 0 a", "f/0 0: Fail 0 a; Push 1", "f/1 0: Is 1 0 1; Fail 0 a", "f/0 0: Fail 0 a; Is 2 0 1; Taken", "f/1 0: Get 2 0 1; Cut 0; Fail 0 a"} {
		at := slices.IndexFunc(codeOf(text).Ins, func(n impl.Ins) bool { return n.V.Kind != 0 })
		for what, v := range wrongTerms() {
			code := codeOf(text)
			code.Ins[at].V = v
			looked(t, text+" with "+what, code, impl.ErrCode, at)
		}
		for _, v := range append(ladder(), many(num(1), 1999), nest(num(1), 99)) {
			code := codeOf(text)
			code.Ins[at].V = v
			looked(t, text, code, impl.OK, 0)
		}
	}
	edges(t, 2, "f/1 0: Push 1; Push 1; Map @ 0; Fail 0 a", "0|1", "2|-1|3")
	edges(t, 1, "f/0 0: Fail 0 a; Map @ 0", "0|1", "2|-1")
	for _, ins := range []string{"Is e @ 1", "Same e @ 0", "Untuple e @ 0", "Unlist e @ 0", "Untail e @ 0", "IsMap e @", "Get e @ 1", "IsBin e @", "End e @", "Take e @ 8 int", "Took e @"} {
		edges(t, 0, "f/4 1: "+ins+"; Cut 0; Fail 0 a; e: Fail 0 a", "0|1|3|4", "-1|5|10000")
		edges(t, 1, "f/4 1: Fail 0 a; "+ins+"; Taken; e: Fail 0 a", "0|4|5|9999|10000", "-1|10001")
	}
}

// Rule 4: what C may be.
func TestRuleOfNumbers(t *testing.T) {
	const huge = "9223372036854775807|-9223372036854775808"
	edges(t, 1, "f/1 3: Taken; Load @; Fail 0 a", "0|2", "3|-1|"+huge)
	edges(t, 1, "f/1 3: Taken; Store @; Fail 0 a", "0|2", "3|-1|"+huge)
	edges(t, 1, "f/1 3: Taken; Same e 0 @; e: Fail 0 a", "0|2", "3|-1|"+huge)
	unsound(t, 0, "f/1 0: Load 0; Fail 0 a")
	unsound(t, 1, "f/1 0: Fail 0 a; Load 0")
	edges(t, 0, "f/3 0: Pick @; Fail 0 a", "0|2", "3|-1|"+huge)
	edges(t, 1, "f/3 0: Fail 0 a; Pick @", "0|3|9999", "10000|-1")
	edges(t, 0, "f/3 0: Cut @; Fail 0 a", "0|2|3", "4|-1|"+huge)
	edges(t, 1, "f/3 0: Fail 0 a; Cut @", "0|4|10000", "10001|-1")
	for _, ins := range []string{"Untuple 2 0 @", "Unlist 2 0 @", "Untail 2 0 @", "Tuple @", "List @", "Cons @", "Map 0 @", "Map 1 @", "Remote @ a:b", "Apply @"} {
		edges(t, 1, "f/3 0: Fail 0 a; "+ins+"; Fail 0 a", "0|1|2000", "2001|-1|"+huge)
	}
	for _, ins := range []string{"Untuple 2 0 @", "Unlist 2 0 @", "Untail 2 0 @"} {
		edges(t, 0, "f/1 0: "+ins+"; Fail 0 a; Fail 0 a", "0|2000", "2001|-1|"+huge)
	}
	edges(t, 1, "f/2000 0: Push 1; Map 1 @; Fail 0 a", "0|1000", "2001|-1|"+huge)
	for s, text := range map[string]string{"Take": "f/3 0: Fail 0 a; Take 2 0 @; Fail 0 a", "Put": "f/3 0: Fail 0 a; Put @; Fail 0 a"} {
		for c := -1; c < 34; c++ {
			int4, binary := c&4 != 0, c&(1+2+16) != 0
			each := c >= 16 && s == "Take"
			for kind, is := range map[string]bool{"int": !int4 && !each, "binary": !binary} {
				one := strings.Replace(text, "@", fmt.Sprint(c, " ", kind), 1)
				if is && c >= 0 && c < 32 {
					sound(t, one)
				} else {
					unsound(t, 1, one)
				}
			}
		}
	}
	edges(t, 0, "f/3 0: Add @; Fail 0 a", "0|1", "2|3|-1|"+huge)
	edges(t, 1, "f/3 0: Fail 0 a; Add @", "0|9998", "9999|-1|10000")
	edges(t, 0, "f/6 0: Join @; Fail 0 a", "0|2", "3|4|-1|"+huge)
	edges(t, 1, "f/6 0: Fail 0 a; Join @", "0|9996", "9997|-1|10000")
	calls := "f/3 0: @; Fail 0 a\ng/1 0: Fail 0 a\nfun/0 2 2: Fail 0 a\nfun/0 0: Fail 0 a"
	edges(t, 0, calls, "Call 0|Call 1|Fun 2|Fun 3", "Call 2|Call 3|Call 4|Call -1|Fun 0|Fun 1|Fun 4|Fun -1")
	edges(t, 1, strings.Replace(calls, "@", "Fail 0 a; @", 1), "Call 0|Call 1|Fun 2|Fun 3", "Call 2|Call 4|Call -1|Fun 1|Fun 4|Fun -1|Call 9223372036854775807")
	edges(t, 0, "f/1 0: Fail @ a", "0|1", "2|-1|"+huge)
	edges(t, 1, "f/1 0: Fail 0 a; Fail @ a", "0|1", "2|-1")
	edges(t, 0, "f/1 0: Gen @; Fail 0 a", "0|1", "2|-1|"+huge)
	edges(t, 1, "f/1 0: Fail 0 a; Gen @", "0|1", "2|-1")
}

// Rule 5: what S may be.
func TestRuleOfTexts(t *testing.T) {
	atHead := func(ins string, well string, ill string) {
		t.Helper()
		edges(t, 0, "f/9 0: "+ins+"; Fail 0 a; e: Fail 0 a", well, ill)
		edges(t, 1, "f/9 0: Fail 0 a; "+ins+"; Fail 0 a; e: Fail 0 a", well, ill)
	}
	edges(t, 1, "f/9 0: Fail 0 a; Take 2 0 0 @; Fail 0 a", "int|binary", "|bits|Int|a|float|signed")
	edges(t, 1, "f/9 0: Fail 0 a; Put 0 @; Fail 0 a", "int|binary", "|bits|Int|a|float|binary8")
	atHead("Operate @", "or|and|==|/=|=:=|=/=|<|=<|>|>=|++|+|-|*|div|rem", "|andalso|orelse|!|=|not|<=|--|a|/")
	atHead("Unary @", "-|not", "|+|or|!|a")
	edges(t, 0, "f/9 0: Also e @; Push 1; e: Fail 0 a", "andalso|orelse", "|and|or|not|a|==")
	edges(t, 1, "f/9 0: Fail 0 a; Also e @; e: Fail 0 a", "andalso|orelse", "|and|or|not|a|==")
	var names []string
	for s := range strings.FieldsSeq(guardNames + plainNames + processNames) {
		name, number, _ := strings.Cut(s, "/")
		names = append(names, number+" "+name)
	}
	atHead("Builtin @", strings.Join(names, "|"), "1 f|0 hd|2 hd|1 self|1 spawn2|0|1|1 m:hd|3 element|2 send_after|2 error|2 a")
	unsound(t, 0, "f/9 0: Builtin 1 g; Fail 0 a\ng/1 0: Fail 0 a") // the module's own is called otherwise
	atHead("Remote 1 @", "a:b|m:f|hd:hd|aB_9:x|"+strings.Repeat("a", 30)+":"+strings.Repeat("b", 30), "|a|:|a:|:b|a:b:c|a:B|A:b|a:end|of:b|_:a|"+strings.Repeat("a", 31)+":b")
	atHead("Fail 1 @", "a|badarg|aB_9|"+strings.Repeat("a", 30), "|A|of|after|a:b|9|_|"+strings.Repeat("a", 31))
}

// Rule 6: what is taken or looked at is there.
func TestRuleOfValues(t *testing.T) {
	takes := map[string]int{
		"Store 0": 1, "Dup": 1, "Drop": 1, "Is e 0 1": 1, "Same e 0 0": 1, "Untuple e 0 0": 1, "Unlist e 0 2": 1, "Untail e 0 1": 1, "IsMap e 0": 1, "Get e 0 1": 1, "IsBin e 0": 1,
		"Take e 0 0 int": 3, "Take e 0 8 int": 2, "Take e 0 12 binary": 2, "Take e 0 4 binary": 3, "End e 0": 2, "Tuple 0": 0, "Tuple 3": 3, "List 2": 2, "Cons 0": 1, "Cons 2": 3, "Map 0 0": 0, "Map 1 0": 1, "Map 0 2": 4, "Map 1 2": 5,
		"Row": 0, "Put 8 int": 3, "Put 0 int": 4, "Put 24 int": 3, "Put 16 int": 4, "Put 12 binary": 3, "Put 3 int": 4, "Whole": 2, "Operate +": 2, "Unary -": 1, "Also l andalso": 1,
		"Call 1": 2, "Call 2": 0, "Builtin 0 self": 0, "Builtin 1 hd": 1, "Builtin 3 setelement": 3, "Remote 0 a:b": 0, "Remote 3 a:b": 3, "Apply 0": 1, "Apply 2": 3, "Fun 3": 2, "Fail 0 a": 0, "Fail 1 a": 1, "Raise": 2, "Resume": 2,
		"Try l": 0, "Guard l": 0, "True": 1, "Gen 0": 1, "Gen 1": 1, "Next l": 2, "More l": 2, "Took e 0": 3, "Filter l": 1, "Send": 2, "Mark": 1, "Letter l": 0, "Taken": 0, "Step 1": 0, "Push 1": 0, "Load 0": 0, "Cut 0": 0, "Jump l": 0,
	}
	for ins, n := range takes {
		behind := "; Fail 0 a; l: Fail 0 a; e: Fail 0 a\ng/2 0: Fail 0 a\nh/0 0: Fail 0 a\nfun/0 2 2: Fail 0 a"
		for _, have := range []int{n, n + 1, n + 3} {
			sound(t, fmt.Sprintf("f/%d 1: %s%s", have, ins, behind))
		}
		for have := range n {
			unsound(t, 0, fmt.Sprintf("f/%d 1: %s%s", have, ins, behind))
		}
		// Above what there was at the latest handler's instruction.
		handler := func(op string, have int) string {
			low := strings.NewReplacer(" e 0", " e 2", "Cut 0", "Cut 2").Replace(ins)
			pushes := strings.Repeat("Push 1; ", have)
			return fmt.Sprintf("f/2 1: %s l0; %s%s; Fail 0 a; l: Fail 0 a; e: Fail 0 a; l0: Fail 0 a%s", op, pushes, low, behind[strings.Index(behind, "\n"):])
		}
		for _, op := range []string{"Try", "Guard"} {
			sound(t, handler(op, n))
			if n > 0 {
				unsound(t, n, handler(op, n-1))
			}
		}
	}
	unsound(t, 0, "f/0 0: Return")
	unsound(t, 1, "f/1 0: Guard e; Dup; e: Fail 0 a")
	// Places may lie anywhere; where it fails, and OpCut, not below.
	sound(t, "f/2 0: Guard e; Pick 0; Pick 1; Ended; Cut 0; Fail 0 a; e: Fail 0 a")
	sound(t, "f/2 0: Guard e; Push 1; Add 0; Row; Join 0; Fail 0 a; e: Fail 0 a")
	edges(t, 2, "f/2 0: Guard e; Push 1; Cut @; Fail 0 a; e: Fail 0 a", "2|3", "1|0|4")
	edges(t, 2, "f/2 0: Guard e; Push 1; Is l @ 1; Fail 0 a; l: Fail 0 a; e: Fail 0 a", "2|3", "1|0|4")
	edges(t, 4, "f/2 0: Guard e; Push 1; Guard e2; Push 1; Is l @ 1; Fail 0 a; l: Fail 0 a; e2: Fail 0 a; e: Fail 0 a", "3|4", "2|1|0|5")
	edges(t, 4, "f/2 0: Guard e; Push 1; Guard e2; Ended; Cut @; Fail 0 a; e2: Fail 0 a; e: Fail 0 a", "2|3", "1|0|4")
}

// Rules 7 and 8: ends of blocks, handlers, and how high the stack may be.
func TestRuleOfEndsAndLimits(t *testing.T) {
	sound(t, "f/1 0: Return")
	unsound(t, 0, "f/2 0: Return")
	unsound(t, 0, "f/0 0: Return")
	sound(t, "f/2 0: Fail 0 a; Return")
	unsound(t, 2, "f/0 0: Try e; Push 1; Return; e: Fail 0 a")
	unsound(t, 2, "f/0 0: Guard e; Push 1; Return; e: Fail 0 a")
	sound(t, "f/0 0: Guard e; Push 1; Ended; Return; e: Fail 0 a")
	unsound(t, 0, "f/0 0: Ended; Fail 0 a")
	unsound(t, 2, "f/0 0: Try e; Ended; Ended; Fail 0 a; e: Fail 0 a")
	sound(t, "f/0 0: Try e; Try d; Ended; Ended; Fail 0 a; d: Fail 0 a; e: Fail 0 a")
	sound(t, "f/0 0: Fail 0 a; Ended")
	for _, op := range []string{"Try", "Guard"} {
		handlers := func(n int) string {
			return "f/0 0: " + strings.Repeat(op+" e; ", n) + "Fail 0 a; " + "e: Fail 0 a"
		}
		// All of them go on at one place, which is reached with other handlers each time, but for the first.
		unsound(t, 1, handlers(2))
		deep := func(n int) string {
			text := "f/0 0: "
			for i := range n {
				text += fmt.Sprint(op, " e", i, "; ")
			}
			text += "Fail 0 a; "
			for i := range n {
				text += fmt.Sprint("e", i, ": Fail 0 a; ")
			}
			return text
		}
		sound(t, deep(1000))
		unsound(t, 1000, deep(1001))
	}
	pushes := func(n int, behind string) string {
		return "f/2000 1: " + strings.Repeat("Push 1; ", n) + behind + "; Fail 0 a; e: Fail 0 a\nfun/0 0: Fail 0 a"
	}
	sound(t, pushes(8000, "Taken"))
	unsound(t, 8000, pushes(8001, "Taken"))
	sound(t, pushes(7999, "Push 1"))
	for ins, more := range map[string]int{
		"Load 0": 1, "Pick 0": 1, "Dup": 1, "Get e 0 1": 1, "IsBin e 0": 1, "Take e 0 8 int": 1, "Untuple e 0 2000": 1999, "Unlist e 0 5": 4, "Untail e 0 5": 5, "Tuple 0": 1, "List 0": 1, "Map 0 0": 1, "Row": 2,
		"Builtin 0 self": 1, "Remote 0 a:b": 1, "Fun 1": 1, "Gen 0": 1, "Next e": 1, "More e": 2, "Letter e": 1,
	} {
		sound(t, pushes(8000-more, ins))
		unsound(t, 8001-more, pushes(8001-more, ins))
	}
	sound(t, pushes(7998, "Try e"))
	unsound(t, 7999, pushes(7999, "Try e"))
	sound(t, pushes(8000, "Guard e"))
}

// Rule 9: where it goes on, and that it is reached in one way.
func TestRuleOfWays(t *testing.T) {
	for _, ins := range []string{"Step 1", "Push 1", "Taken", "Push 1; Drop"} {
		at := strings.Count(ins, ";")
		unsound(t, at, "f/0 0: "+ins)
		unsound(t, at, "f/0 0: "+ins+"\ng/0 0: Fail 0 a")
		sound(t, "f/0 0: Fail 0 a; "+ins+"\ng/0 0: Fail 0 a")
	}
	for _, ins := range []string{"Push 1; Return", "Fail 0 a", "Push 1; Push 1; Raise", "Push 1; Fail 1 a"} {
		sound(t, "f/0 0: "+ins)
		sound(t, "f/0 0: "+ins+"; Drop; Cut 9; Ended; Return") // not reached
	}
	unsound(t, 2, "f/0 0: Push 1; Push 1; Resume")
	// Two ways with other values.
	unsound(t, 2, "f/1 0: Is l 0 1; Push 1; Push 1; l: Fail 0 a")
	sound(t, "f/1 0: Is l 0 1; Push 1; Cut 0; l: Fail 0 a")
	sound(t, "f/1 0: Is l 1 1; Push 1; l: Fail 0 a")
	unsound(t, 0, "f/1 0: Is l 1 1; l: Fail 0 a")
	for ins, height := range map[string]int{"Jump l": 4, "Also l orelse": 4, "Next l": 2, "More l": 2, "Filter l": 3, "Letter l": 4, "Guard l": 4, "Try l": 6, "Is l 1 1": 1, "Took l 3": 3} {
		for have := range 8 {
			text := fmt.Sprintf("f/4 0: %s; Taken; Fail 0 a; l: Cut %d; Pick %d; Fail 0 a", ins, have, max(have-1, 0))
			switch {
			case have > height:
				unsound(t, 3, text)
			case have > 0:
				sound(t, text)
			}
		}
	}
	// Two ways with other handlers: how many, which operation, where it goes on, with how many values.
	ways := func(one, two string) string {
		return "f/3 0: Filter o; " + one + "; Jump l; o: " + two + "; l: Fail 0 a; h: Fail 0 a; k: Fail 0 a"
	}
	sound(t, ways("Guard h", "Guard h"))
	unsound(t, 3, ways("Guard h", "Taken"))
	unsound(t, 3, ways("Taken", "Guard h"))
	unsound(t, 3, ways("Guard h", "Guard k"))
	unsound(t, 2, ways("Guard h; Guard h", "Guard h"))
	unsound(t, 6, ways("Cut 0; Try k; Push 1; Push 1", "Guard k"))
	sound(t, ways("Guard h; Ended", "Taken"))
	sound(t, ways("Cut 0; Try k", "Cut 0; Try k"))
	unsound(t, 5, ways("Cut 0; Try k", "Cut 0; Guard k"))
	unsound(t, 5, ways("Cut 0; Guard k", "Cut 0; Try h"))
	sound(t, ways("Push 1; Guard h; Guard k", "Push 1; Guard h; Guard k"))
	unsound(t, 5, ways("Push 1; Guard h; Guard k", "Guard h; Push 1; Guard k"))
	sound(t, ways("Guard h; Guard k; Ended; Ended; Guard h", "Guard h"))
	// Behind OpTry and OpGuard the next one has the handler, the place A has not.
	unsound(t, 0, "f/0 0: Guard e; e: Fail 0 a")
	unsound(t, 0, "f/0 0: Try e; e: Fail 0 a")
	sound(t, "f/0 0: Try e; Fail 0 a; e: Raise")
	unsound(t, 2, "f/0 0: Guard e; Fail 0 a; e: Raise")
	unsound(t, 3, "f/0 0: Try e; Fail 0 a; e: Taken; Ended; Fail 0 a")
	// Round a loop it comes as it went in.
	sound(t, "f/2 0: l: Next out; Drop; Jump l; out: Fail 0 a")
	unsound(t, 1, "f/2 0: l: Next out; Jump l; out: Fail 0 a")
	unsound(t, 3, "f/2 0: l: Next out; Drop; Guard e; Jump l; out: Fail 0 a; e: Fail 0 a")
	unsound(t, 2, "f/1 0: l: Letter out; Cut 0; Jump l; out: Fail 0 a")
	sound(t, "f/2 0: l: More out; Cut 2; Jump l; out: Fail 0 a")
	// What is not reached reaches nothing.
	sound(t, "f/0 0: Jump l; Push 1; Jump l; l: Fail 0 a")
	sound(t, "f/0 0: Jump l; Try l; Jump l; l: Fail 0 a")
}

// The first instruction that is wrong is told, in whichever rule it is.
func TestFirstOfTwoWrong(t *testing.T) {
	unsound(t, 1, "f/0 0: Taken; Drop; Load 0; Fail 0 a")
	unsound(t, 1, "f/0 0: Taken; Load 0; Drop; Fail 0 a")
	unsound(t, 2, "f/0 0: Taken; Fail 0 a; Load 0\ng/0 0: Drop; Fail 0 a")
	unsound(t, 1, "f/0 0: Fail 0 a\ng/0 0: Drop; Fail 0 a")
	unsound(t, 0, "f/0 0: Push 1\ng/0 0: Load 0")
}

// spoiltCode is code in which one field of one instruction, or of one table, is another one.
func (r *speaker) spoiltCode(code impl.Code) impl.Code {
	c := copiedCode(code)
	i := r.Intn(len(c.Ins))
	n := &c.Ins[i]
	near := func(v int) int { return []int{v - 1, v + 1, v + 2, 0, 1, -1, r.Intn(len(c.Ins) + 1), 10000}[r.Intn(8)] }
	switch r.Intn(12) {
	case 0:
		n.Op = r.Intn(55)
	case 1, 2:
		n.A = near(n.A)
	case 3, 4:
		n.B = near(n.B)
	case 5, 6:
		n.C = near(n.C)
	case 7:
		n.S = r.of("", "a", "int", "binary", "andalso", "or", "hd", "m:f", "of", "-", "not", "+", "self")
	case 8:
		n.V = []impl.Term{{}, num(1), atom("of"), atom("A"), list(num(1)), list(impl.Term{})}[r.Intn(6)]
	case 9:
		c.Ins[i], c.Ins[len(c.Ins)-1-i] = c.Ins[len(c.Ins)-1-i], c.Ins[i]
	case 10:
		c.Ins[i] = c.Ins[r.Intn(len(c.Ins))]
	case 11:
		f := &c.Fns[r.Intn(len(c.Fns))]
		*[]*int{&f.Arity, &f.At, &f.Slots, &f.Node, &f.Held}[r.Intn(5)] = near(f.Slots)
	}
	return c
}

// Compiled code that is spoilt, once or twice, is found as wrong as the second reading finds it.
func TestVerifyOfSpoiltCode(t *testing.T) {
	t.Parallel()
	r := &speaker{chance: newChance(22)}
	seen := map[string]int{}
	look := func(code impl.Code) {
		wrong, at := impl.Verify(code)
		if w, a := verifyByWords(code); w != wrong || a != at {
			t.Fatalf("Verify is %d at %d, by the words %d at %d\n%s", wrong, at, w, a, listing(code))
		}
		op := 0
		if wrong == impl.ErrCode && between(code.Ins[at].Op, 1, 53) {
			op = code.Ins[at].Op
		}
		seen[fmt.Sprint(wrong)]++
		seen[opRows[op].name]++
	}
	for _, m := range spokenModules(t, 500) {
		code := compiled(t, flat(m))
		look(code)
		for range 25 {
			one := r.spoiltCode(code)
			look(one)
			look(r.spoiltCode(one))
		}
	}
	for _, row := range opRows[1:] {
		if seen[row.name] < 5 {
			t.Error("too few wrong", row.name, seen[row.name])
		}
	}
	t.Log(seen["0"], seen["1"], seen["12"], slices.Sorted(maps.Values(seen)))
}

// anyCode is a short code by chance, of which some is sound.
func (r *speaker) anyCode() impl.Code {
	code := impl.Code{Name: "m", Fns: []impl.CodeFn{{Name: "f", Arity: r.Intn(4), Slots: 1}}}
	n := 2 + r.Intn(7)
	for i := range n {
		row := opRows[1+r.Intn(53)]
		ins := impl.Ins{Op: row.number}
		for _, f := range row.fields {
			switch f {
			case 'A':
				ins.A = i + 1 + r.Intn(n-i)
				if r.Intn(8) == 0 {
					ins.A = r.Intn(n)
				}
			case 'B':
				ins.B = r.Intn(3)
			case 'C':
				ins.C = r.Intn(3)
			case 'S':
				ins.S = map[string]string{"Take": "int", "Put": "int", "Operate": "+", "Unary": "-", "Also": "orelse", "Builtin": "hd", "Remote": "a:b", "Fail": "a"}[row.name]
			case 'V':
				ins.V = num(1)
			}
		}
		if i == n-1 || r.Intn(12) == 0 {
			ins = impl.Ins{Op: impl.OpFail, S: "a"}
		}
		code.Ins = append(code.Ins, ins)
	}
	return code
}

func TestVerifyOfAnyCode(t *testing.T) {
	t.Parallel()
	r := &speaker{chance: newChance(23)}
	sounds := 0
	for range 100000 {
		code := r.anyCode()
		wrong, at := impl.Verify(code)
		if w, a := verifyByWords(code); w != wrong || a != at {
			t.Fatalf("Verify is %d at %d, by the words %d at %d\n%s", wrong, at, w, a, listing(code))
		}
		if wrong == impl.OK {
			sounds++
		}
	}
	if sounds < 2500 {
		t.Error("too little sound code", sounds)
	}
	t.Log(sounds)
}
