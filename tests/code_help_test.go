package tests

import (
	"fmt"
	"reflect"
	"slices"
	"strconv"
	"strings"
	"testing"

	"loop.example/g00019/impl"
)

// opWords is the table of 5.1: each operation by its number, with its fields.
const opWords = `1 Step A
2 Push V
3 Load C
4 Store C
5 Pick C
6 Dup
7 Drop
8 Cut C
9 Jump A
10 Is A B V
11 Same A B C
12 Untuple A B C
13 Unlist A B C
14 Untail A B C
15 IsMap A B
16 Get A B V
17 IsBin A B
18 Take A B C S
19 End A B
20 Tuple C
21 List C
22 Cons C
23 Map B C
24 Row
25 Put C S
26 Whole
27 Join C
28 Add C
29 Operate S
30 Unary S
31 Also A S
32 Call C
33 Builtin C S
34 Remote C S
35 Apply C
36 Fun C
37 Return
38 Fail C S
39 Raise
40 Resume
41 Try A
42 Guard A
43 Ended
44 True
45 Gen C
46 Next A
47 More A
48 Took A B
49 Filter A
50 Send
51 Mark
52 Letter A
53 Taken`

// opRow is a row of that table.
type opRow struct {
	number int
	name   string
	fields string // the letters of its fields
}

var opRows = readOpRows()

func readOpRows() []opRow {
	rows := []opRow{{}}
	for line := range strings.SplitSeq(opWords, "\n") {
		words := strings.Fields(line)
		n, _ := strconv.Atoi(words[0])
		rows = append(rows, opRow{n, words[1], strings.Join(words[2:], "")})
	}
	return rows
}

func opNamed(name string) opRow {
	i := slices.IndexFunc(opRows, func(r opRow) bool { return r.name == name })
	if i < 1 {
		panic("no operation " + name)
	}
	return opRows[i]
}

// insText is an instruction as these tests write it: its operation and the fields that the table names.
func insText(n impl.Ins) string {
	if n.Op < 1 || n.Op >= len(opRows) {
		return fmt.Sprintf("%+v", n)
	}
	row := opRows[n.Op]
	words := []string{row.name}
	for _, f := range row.fields {
		switch f {
		case 'A':
			words = append(words, strconv.Itoa(n.A))
		case 'B':
			words = append(words, strconv.Itoa(n.B))
		case 'C':
			words = append(words, strconv.Itoa(n.C))
		case 'S':
			words = append(words, n.S)
		case 'V':
			s, _ := impl.TermShow(n.V)
			words = append(words, s)
		}
	}
	s := strings.Join(words, " ")
	if more := plain(n); more != "" {
		s += " beside" + more
	}
	return s
}

// plain is what an instruction says in fields that the table does not name for it.
func plain(n impl.Ins) string {
	more := ""
	for f, is := range map[string]bool{"A": n.A != 0, "B": n.B != 0, "C": n.C != 0, "S": n.S != "", "V": !zero(n.V)} {
		if is && !strings.Contains(opRows[n.Op].fields, f) {
			more += " " + f
		}
	}
	return more
}

// insOf is the instruction of such a text; names of places are looked up. A term is all that is left of it.
func insOf(text string, places map[string]int) impl.Ins {
	name, rest, _ := strings.Cut(strings.TrimSpace(text), " ")
	row := opNamed(name)
	n := impl.Ins{Op: row.number}
	for _, f := range row.fields {
		if f == 'V' {
			n.V = term(rest)
			rest = ""
			break
		}
		var word string
		word, rest, _ = strings.Cut(strings.TrimSpace(rest), " ")
		number, err := strconv.Atoi(word)
		if at, is := places[word]; is && f == 'A' {
			number, err = at, nil
		}
		switch {
		case f == 'S':
			n.S = word
		case err != nil:
			panic("no number " + word + " in " + text)
		case f == 'A':
			n.A = number
		case f == 'B':
			n.B = number
		case f == 'C':
			n.C = number
		}
	}
	if strings.TrimSpace(rest) != "" {
		panic("too much in " + text)
	}
	return n
}

// codeOf is code as these tests write it: each block a paragraph that begins
// with its head, "name/arity slots" ("fun/arity slots held" without a Name), and
// a colon; instructions and places' names, these with a colon behind them, stand
// apart by semicolons or line feeds. Nodes are numbered from 0 on; what is named m exports nothing.
func codeOf(text string) impl.Code {
	code := impl.Code{Name: "m"}
	places := map[string]int{}
	var lines []string
	for line := range strings.FieldsFuncSeq(text, func(r rune) bool { return r == ';' || r == '\n' }) {
		line = strings.TrimSpace(line)
		for {
			label, rest, is := strings.Cut(line, ":")
			if !is || strings.Contains(label, " ") && !isHead(label) {
				break
			}
			if strings.Contains(label, "/") {
				code.Fns = append(code.Fns, headOf(label, len(lines), len(code.Fns)))
			} else {
				places[strings.TrimSpace(label)] = len(lines)
			}
			line = strings.TrimSpace(rest)
		}
		if line != "" {
			lines = append(lines, line)
		}
	}
	for _, line := range lines {
		code.Ins = append(code.Ins, insOf(line, places))
	}
	return code
}

// isHead tells whether what stands ahead of a colon is a block's head.
func isHead(text string) bool {
	name, _, is := strings.Cut(text, "/")
	return is && !strings.Contains(name, " ")
}

func headOf(text string, at, node int) impl.CodeFn {
	var f impl.CodeFn
	name, rest, _ := strings.Cut(text, "/")
	if _, err := fmt.Sscan(rest+" 0", &f.Arity, &f.Slots, &f.Held); err != nil {
		panic("no head " + text)
	}
	if name != "fun" {
		f.Name = name
	}
	f.At, f.Node = at, node
	return f
}

func sameIns(a, b impl.Ins) bool {
	return a.Op == b.Op && a.A == b.A && a.B == b.B && a.C == b.C && a.S == b.S && same(a.V, b.V)
}

func sameCode(a, b impl.Code) bool {
	return a.Name == b.Name && slices.Equal(a.Fns, b.Fns) && slices.Equal(a.Refers, b.Refers) && slices.EqualFunc(a.Ins, b.Ins, sameIns)
}

func zeroCode(c impl.Code) bool { return sameCode(c, impl.Code{}) }

// copiedCode is the same code in memory of its own.
func copiedCode(c impl.Code) impl.Code {
	c.Fns, c.Refers, c.Ins = slices.Clone(c.Fns), slices.Clone(c.Refers), slices.Clone(c.Ins)
	for i := range c.Ins {
		c.Ins[i].V = copiedTerm(c.Ins[i].V)
	}
	return c
}

func copiedTerm(t impl.Term) impl.Term {
	t.Kids = slices.Clone(t.Kids)
	for i := range t.Kids {
		t.Kids[i] = copiedTerm(t.Kids[i])
	}
	return t
}

// listing is code for a reader.
func listing(c impl.Code) string {
	var b strings.Builder
	fmt.Fprintf(&b, "%s %+v\n", c.Name, c.Refers)
	for i, n := range c.Ins {
		for _, f := range c.Fns {
			if f.At == i {
				fmt.Fprintf(&b, "%+v\n", f)
			}
		}
		fmt.Fprintf(&b, "%4d %s\n", i, insText(n))
	}
	return b.String()
}

// unlike tells where two codes differ first.
func unlike(a, b impl.Code) string {
	x, y := strings.Split(listing(a), "\n"), strings.Split(listing(b), "\n")
	for i := range min(len(x), len(y)) {
		if x[i] != y[i] {
			return fmt.Sprintf("line %d: %s, not %s", i, x[i], y[i])
		}
	}
	return fmt.Sprintf("%d lines, not %d", len(x), len(y))
}

// compiled is the code of a tree, which has to be sound.
func compiled(t *testing.T, tree []impl.Node) impl.Code {
	t.Helper()
	code, wrong := impl.Compile(tree)
	if wrong != impl.OK {
		t.Fatalf("Compile: code %d", wrong)
	}
	if wrong, at := impl.Verify(code); wrong != impl.OK || at != 0 {
		t.Fatalf("what Compile makes is not sound: code %d at %d\n%s", wrong, at, listing(code))
	}
	return code
}

func TestConstantsOfCode(t *testing.T) {
	if impl.MaxIns != 20000 || impl.MaxHandlers != 1000 || impl.MaxStack != 10000 || impl.MaxImage != 200000 || impl.ErrCode != 12 {
		t.Error("limits")
	}
	ops := []int{
		impl.OpStep, impl.OpPush, impl.OpLoad, impl.OpStore, impl.OpPick, impl.OpDup, impl.OpDrop, impl.OpCut, impl.OpJump, impl.OpIs,
		impl.OpSame, impl.OpUntuple, impl.OpUnlist, impl.OpUntail, impl.OpIsMap, impl.OpGet, impl.OpIsBin, impl.OpTake, impl.OpEnd, impl.OpTuple,
		impl.OpList, impl.OpCons, impl.OpMap, impl.OpRow, impl.OpPut, impl.OpWhole, impl.OpJoin, impl.OpAdd, impl.OpOperate, impl.OpUnary,
		impl.OpAlso, impl.OpCall, impl.OpBuiltin, impl.OpRemote, impl.OpApply, impl.OpFun, impl.OpReturn, impl.OpFail, impl.OpRaise, impl.OpResume,
		impl.OpTry, impl.OpGuard, impl.OpEnded, impl.OpTrue, impl.OpGen, impl.OpNext, impl.OpMore, impl.OpTook, impl.OpFilter, impl.OpSend,
		impl.OpMark, impl.OpLetter, impl.OpTaken,
	}
	for i, op := range ops {
		if op != i+1 || opRows[op].number != op {
			t.Error("operation", i+1, "is", op)
		}
	}
	if len(ops) != 53 || len(opRows) != 54 {
		t.Error(len(ops), len(opRows))
	}
}

func TestHelpersOfCode(t *testing.T) {
	code := codeOf("f/2 3: Pick 1; Is next 2 {a, 1}; Jump next\nnext: Remote 1 m:f; Push x; Return\nfun/0 2 1: Fail 0 badarg")
	want := impl.Code{
		Name: "m",
		Fns:  []impl.CodeFn{{Name: "f", Arity: 2, Slots: 3}, {Arity: 0, Slots: 2, Held: 1, Node: 1, At: 6}},
		Ins: []impl.Ins{
			{Op: 5, C: 1}, {Op: 10, A: 3, B: 2, V: tuple(atom("a"), num(1))}, {Op: 9, A: 3},
			{Op: 34, C: 1, S: "m:f"}, {Op: 2, V: atom("x")}, {Op: 37}, {Op: 38, S: "badarg"},
		},
	}
	if !reflect.DeepEqual(code, want) || !sameCode(code, want) {
		t.Errorf("%+v", code)
	}
	for i, s := range []string{"Pick 1", "Is 3 2 {a, 1}", "Jump 3", "Remote 1 m:f", "Push x", "Return", "Fail 0 badarg"} {
		if insText(want.Ins[i]) != s || !sameIns(insOf(s, nil), want.Ins[i]) {
			t.Error(insText(want.Ins[i]))
		}
	}
	if insText(impl.Ins{Op: 37, B: 1}) != "Return beside B" {
		t.Error(insText(impl.Ins{Op: 37, B: 1}))
	}
	other := copiedCode(code)
	other.Ins[1].V.Kids[0] = num(2)
	if sameCode(code, other) || !sameCode(code, want) || unlike(code, other) == "" {
		t.Error("sameCode")
	}
}
