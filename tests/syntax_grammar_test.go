package tests

import (
	"fmt"
	"regexp"
	"slices"
	"strings"
	"testing"

	"loop.example/g00019/impl"
)

// The grammar of 3.3, as the document has it.
const grammarText = `
    module   = "module" ATOM "." { "export" ATOM "/" NUMBER { "," ATOM "/" NUMBER } "." } { function } .
    function = ATOM rest { ";" ATOM rest } "." .                     rest = "(" [ e { "," e } ] ")" [ "when" guard ] "->" body .
    guard    = e { "," e } .          body = e { "," e } .
    e        = send [ "=" e ] .       send = oe [ "!" send ] .
    oe       = ae { "orelse" ae } .   ae = cmp { "andalso" cmp } .
    cmp      = cat [ ( "==" | "/=" | "=:=" | "=/=" | "<" | "=<" | ">" | ">=" ) cat ] .
    cat      = sum [ "++" cat ] .     sum = prod { ( "+" | "-" | "or" ) prod } .
    prod     = un { ( "*" | "div" | "rem" | "and" ) un } .           un = ( "-" | "not" ) un | call .
    call     = prim { "(" [ e { "," e } ] ")" } .
    prim     = NUMBER | VARIABLE | STRING | ATOM [ ":" ATOM "(" [ e { "," e } ] ")" ] | "(" e ")" | "{" [ e { "," e } ] "}" | list | map | bin
             | "fun" ( ATOM "/" NUMBER | rest { ";" rest } "end" ) | "case" e "of" clauses "end" | "receive" [ clauses ] [ "after" e "->" body ] "end"
             | "try" body "catch" catch { ";" catch } [ "after" body ] "end" | "begin" body "end" .
    catch    = ( ATOM | VARIABLE ) ":" e [ "when" guard ] "->" body .
    list     = "[" "]" | "[" e ( "||" quals | { "," e } [ "|" e ] ) "]" .        quals = qual { "," qual } .     qual = e [ "<-" e ] .
    map      = "#{" [ e "=>" e { "," e "=>" e } ] [ "|" e ] "}" .
    bin      = "<<" ">>" | "<<" seg ( "||" quals | { "," seg } ) ">>" .           seg = part [ ":" part ] { "/" ATOM } .     part = NUMBER | VARIABLE | STRING | "(" e ")" .
    clauses  = e [ "when" guard ] "->" body { ";" e [ "when" guard ] "->" body } .
`

// grammar is rules of plain rows: what { } [ ] and ( ) held has rules of its own.
type grammar struct {
	left  []string // to be read yet
	rules map[string][][]string
	made  int
}

func newGrammar() *grammar {
	g := &grammar{left: strings.Fields(grammarText), rules: map[string][][]string{}}
	for len(g.left) > 0 {
		name := g.next()
		g.next() // =
		g.rules[name] = g.choices()
		g.next() // .
	}
	return g
}

func (g *grammar) next() string {
	s := g.left[0]
	g.left = g.left[1:]
	return s
}

func (g *grammar) choices() [][]string {
	all := [][]string{g.symbols()}
	for g.left[0] == "|" {
		g.next()
		all = append(all, g.symbols())
	}
	return all
}

func (g *grammar) symbols() []string {
	row := []string{}
	for !slices.Contains([]string{"|", ")", "]", "}", "."}, g.left[0]) {
		s := g.next()
		if s != "(" && s != "[" && s != "{" {
			row = append(row, s)
			continue
		}
		g.made++
		name := fmt.Sprint("made", g.made)
		held := g.choices()
		g.next() // the closing one
		switch s {
		case "[":
			held = append(held, []string{})
		case "{":
			for i := range held {
				held[i] = append(held[i], name)
			}
			held = append(held, []string{})
		}
		g.rules[name] = held
		row = append(row, name)
	}
	return row
}

// said is a word by the second reading of 3.1.
type said struct {
	text string
	kind string // ATOM, VARIABLE, NUMBER, STRING, its text in " " or none
	at   int
}

var saidWord = func() *regexp.Regexp {
	signs := strings.Fields(`( ) [ ] { } #{ => := << >> , ; . | || <- -> : / + - * ++ == /= =:= =/= < =< > >= = !`)
	for i := range signs {
		signs[i] = regexp.QuoteMeta(signs[i])
	}
	r := regexp.MustCompile(`^(?:[A-Za-z0-9_]+|"(?:[ !#-\[\]-~]|\\["\\n])*"|` + strings.Join(signs, "|") + ")")
	r.Longest()
	return r
}()

var saidAtom = regexp.MustCompile(`^[a-z][A-Za-z0-9_]{0,29}$`)

var saidVariable = regexp.MustCompile(`^[A-Z_][A-Za-z0-9_]{0,29}$`)

var saidNumber = regexp.MustCompile(`^(0|[1-9][0-9]{0,14}|1000000000000000)$`)

var saidPlain = regexp.MustCompile(`^[A-Za-z0-9_]+$`)

var betweenWords = regexp.MustCompile(`^(?:[ \n]|%[^\n]*)*`)

// saidWords is a text's words up to the first one that is none.
func saidWords(text string) []said {
	var row []said
	for at := 0; ; {
		at += len(betweenWords.FindString(text[at:]))
		if at == len(text) {
			return row
		}
		s := saidWord.FindString(text[at:])
		row = append(row, said{s, kindOfSaid(s), at})
		if row[len(row)-1].kind == "none" {
			return row
		}
		at += len(s)
	}
}

func kindOfSaid(s string) string {
	switch {
	case s == "":
		return "none"
	case slices.Contains(reserved, s):
		return `"` + s + `"`
	case saidAtom.MatchString(s):
		return "ATOM"
	case saidVariable.MatchString(s):
		return "VARIABLE"
	case saidNumber.MatchString(s):
		return "NUMBER"
	case saidPlain.MatchString(s) || len(s) > 1 && s[0] == '"' && len(strings.NewReplacer(`\"`, `q`, `\\`, `b`, `\n`, `n`).Replace(s)) > 202:
		return "none"
	case s[0] == '"':
		return "STRING"
	}
	return `"` + s + `"`
}

// state is how far a row of a rule was met that began at a word.
type state struct {
	rule  string
	row   int
	dot   int
	begin int
}

// firstUnfit is the number of the first word with which nothing of the grammar begins (how
// many there are, when words lack), and -1 when all of them are a module: all rows that may
// be under way are kept side by side.
func (g *grammar) firstUnfit(words []said) int {
	sets := [][]state{nil}
	seen := map[state]bool{}
	add := func(set int, s state) {
		if key := (state{s.rule, s.row*100 + s.dot, set, s.begin}); !seen[key] {
			seen[key] = true
			sets[set] = append(sets[set], s)
		}
	}
	for row := range g.rules["module"] {
		add(0, state{"module", row, 0, 0})
	}
	for i := 0; ; i++ {
		sets = append(sets, nil)
		for k := 0; k < len(sets[i]); k++ {
			g.step(sets, i, sets[i][k], words, add)
		}
		if i == len(words) {
			if slices.Contains(sets[i], state{"module", 0, len(g.rules["module"][0]), 0}) {
				return -1
			}
			return i
		}
		if len(sets[i+1]) == 0 {
			return i
		}
	}
}

func (g *grammar) step(sets [][]state, i int, s state, words []said, add func(int, state)) {
	symbols := g.rules[s.rule][s.row]
	if s.dot == len(symbols) {
		for _, above := range sets[s.begin] {
			if row := g.rules[above.rule][above.row]; above.dot < len(row) && row[above.dot] == s.rule {
				above.dot++
				add(i, above)
			}
		}
		return
	}
	wanted := symbols[s.dot]
	rows, is := g.rules[wanted]
	if !is && i < len(words) && words[i].kind == wanted {
		s.dot++
		add(i+1, s)
		return
	}
	for row, symbols := range rows {
		add(i, state{wanted, row, 0, i})
		if len(symbols) == 0 { // it may be done already
			next := s
			next.dot++
			add(i, next)
		}
	}
}

// opened is what was opened and is not closed yet.
type opened struct {
	by     string
	number int  // of arguments of a fun's clauses, -1 as long as it is not known
	first  int  // the first word of the clause whose arguments these are, otherwise -1
	commas int  // in brackets
	any    bool // anything in the brackets
}

// besides is what the grammar doesn't say: clauses of one name and number, and the atoms
// behind segments. It goes through words that the grammar takes, and answers the place of
// the first fault that is met, or -1.
func besides(words []said, end int) int {
	var stack []opened
	name, number, first := "", -1, -1 // of the function, and where a clause's arguments are to begin
	for i := 0; i < len(words); i++ {
		w := words[i]
		if w.kind == `"/"` && words[i-1].kind != "ATOM" && len(stack) > 0 && stack[len(stack)-1].by == "<<" {
			run := i
			for run+1 < len(words) && words[run].kind == `"/"` && words[run+1].kind == "ATOM" {
				run += 2
			}
			if at := badAtoms(words, i, run, end); at >= 0 {
				return at
			}
		}
		top := len(stack) - 1
		if top >= 0 && w.kind != `")"` {
			stack[top].any = true
		}
		switch {
		case top < 0 && (w.text == "module" || w.text == "export"):
			for i < len(words) && words[i].kind != `"."` {
				i++
			}
		case top < 0 && w.kind == "ATOM" && first < 0 && (name == "" || words[i-1].text == ";"):
			if name != "" && w.text != name {
				return w.at
			}
			name, first = w.text, i
		case top < 0 && w.kind == `"."`:
			name, number = "", -1
		case w.text == "fun" && i+1 < len(words) && words[i+1].kind == `"("`:
			stack = append(stack, opened{by: "fun", number: -1, first: -1})
			first = i + 1
		case w.text == ";" && top >= 0 && stack[top].by == "fun":
			first = i + 1
		case slices.Contains([]string{"case", "receive", "try", "begin", "[", "{", "#{", "<<"}, w.text):
			stack = append(stack, opened{by: w.text, first: -1})
		case w.kind == `"("`:
			stack = append(stack, opened{by: "(", first: first})
			first = -1
		case w.text == "," && w.kind == `","` && top >= 0:
			stack[top].commas++
		case w.kind == `")"`:
			args := stack[top]
			stack = stack[:top]
			if args.first < 0 {
				continue
			}
			count := args.commas
			if args.any {
				count++
			}
			known := &number
			if top > 0 {
				known = &stack[top-1].number
			}
			if *known >= 0 && *known != count {
				return words[args.first].at
			}
			*known = count
		case slices.Contains([]string{`"end"`, `"]"`, `"}"`, `">>"`}, w.kind):
			stack = stack[:top]
		}
	}
	return -1
}

// badAtoms is the place of the first fault of the atoms behind a segment, from the / at from up to the word behind them.
func badAtoms(words []said, from, behind, end int) int {
	got := map[string]bool{}
	for i := from + 1; i < behind; i += 2 {
		s := words[i].text
		foes := []string{"int", "signed", "little"}
		if slices.Contains(foes, s) {
			foes = []string{"binary", "bits"}
		} else if s != "binary" && s != "bits" {
			return words[i].at
		}
		if got[s] || slices.ContainsFunc(foes, func(f string) bool { return got[f] }) {
			return words[i].at
		}
		got[s] = true
	}
	if got["bits"] && !got["binary"] {
		if behind < len(words) && words[behind].kind == `"/"` {
			return -1 // the word behind that is the grammar's
		}
		if behind < len(words) {
			return words[behind].at
		}
		return end
	}
	return -1
}

// firstFault is the place of a text's first fault, -1 without one: a second reading of what Parse says of it.
func (g *grammar) firstFault(text string) int {
	words := saidWords(text)
	unfit := g.firstUnfit(words)
	if unfit < 0 {
		return besides(words, len(text))
	}
	end := len(text)
	if unfit < len(words) {
		end = words[unfit].at
	}
	if at := besides(words[:unfit], end); at >= 0 {
		return at
	}
	return end
}

// spoiltText is a text with some words altered.
func spoiltText(r chance, text string) string {
	words := saidWords(text)
	var row []string
	for _, w := range words {
		row = append(row, w.text)
	}
	for range r.Intn(3) {
		i := r.Intn(len(row))
		switch r.Intn(6) {
		case 0:
			row = slices.Delete(row, i, i+1)
		case 1, 2:
			row[i] = r.word()
		case 3:
			row = slices.Insert(row, i, r.word())
		case 4:
			k := r.Intn(len(row))
			row[i], row[k] = row[k], row[i]
		case 5:
			row = row[:i+1]
		}
		if len(row) == 0 {
			break
		}
	}
	s := ""
	for _, w := range row {
		s += w + r.of(" ", " ", "\n", "", "  ", "%\n", "%)é \x00\" \n")
	}
	return s
}

func (r chance) word() string {
	switch r.Intn(8) {
	case 0, 1:
		return r.of(strings.Fields(`( ) [ ] { } #{ => := << >> , ; . | || <- -> : / + - * ++ == /= =:= =/= < =< > >= = !`)...)
	case 2, 3:
		return r.of(reserved...)
	case 4:
		return r.name()
	case 5:
		return r.of("X", "_", "0", "1", `"s"`, "1000000000000000", "/signed", "/bits", "/binary/bits", "/int", ", X", "; f(X)", "(X)", "f(1)")
	case 6:
		return r.of("f", "m", "f()", "(", ")", "-> X", "; f", "/ 1", "fun", "fun(", "end", ", 1", ". f() -> 1")
	}
	return r.of("00", "01", "1000000000000001", "1a", `"`, "\"\n\"", `"\t"`, "#", "?", "é", "\x00", "\xff", "\t", "&", "^", strings.Repeat("a", 31), strings.Repeat("A", 31), `"`+strings.Repeat("s", 201)+`"`)
}

// heldAgainstGrammar asks for the first fault of a text, and when there is none for a tree whose text is read alike.
func heldAgainstGrammar(t *testing.T, g *grammar, text string) bool {
	t.Helper()
	if at := g.firstFault(text); at >= 0 {
		faulty(t, text, at)
		return false
	}
	tree := parsed(t, text)
	again, code := impl.Print(tree)
	if code != impl.OK || !sameTree(parsed(t, again), tree) {
		t.Errorf("%q: printed with code %d %q", text, code, again)
	}
	return true
}

func TestFaultsHeldAgainstGrammarP4(t *testing.T) {
	t.Parallel()
	g := newGrammar()
	r := newChance(7)
	right := 0
	const texts = 6000
	for i := range texts {
		text := textByForms(r.module(1 + i%3))
		if len(text) > 600 {
			continue
		}
		if heldAgainstGrammar(t, g, spoiltText(r, text)) {
			right++
		}
		if t.Failed() {
			t.Fatal(text)
		}
	}
	if right < texts/10 || right > texts*9/10 {
		t.Error("right ones:", right)
	}
}

func TestFaultsOfAllWordsP4(t *testing.T) {
	t.Parallel()
	g := newGrammar()
	words := append(strings.Fields(`( ) [ ] { } #{ => := << >> , ; . | || <- -> : / + - * ++ == /= =:= =/= < =< > >= = ! a X 1 "s" int binary bits 01 $`), reserved...)
	for _, ahead := range []string{"", "module", "module m", "module m.", "module m. export", "module m. export f", "module m. export f/1", "module m. f", "module m. f(", "module m. f(X", "module m. f(X)", "module m. f(X) when a", "module m. f(X) -> ",
		"module m. f() -> a", "module m. f() -> a:", "module m. f() -> a:b", "module m. f() -> (1)", "module m. f() -> {", "module m. f() -> {X,", "module m. f() -> [", "module m. f() -> [X", "module m. f() -> [X,Y", "module m. f() -> [X|Y", "module m. f() -> [X||", "module m. f() -> [X||Y", "module m. f() -> [X||Y<-Z",
		"module m. f() -> #{", "module m. f() -> #{a", "module m. f() -> #{a=>b", "module m. f() -> #{a=>b,", "module m. f() -> #{|", "module m. f() -> #{|X", "module m. f() -> <<", "module m. f() -> <<X", "module m. f() -> <<(X", "module m. f() -> <<(X)", "module m. f() -> <<X:", "module m. f() -> <<X:1", "module m. f() -> <<X/", "module m. f() -> <<X/int", "module m. f() -> <<X/int/", "module m. f() -> <<X/binary", "module m. f() -> <<X/binary/", "module m. f() -> <<X/bits", "module m. f() -> <<X/bits/", "module m. f() -> <<X/bits/binary", "module m. f() -> <<X/int/signed/little", "module m. f() -> <<X/int/signed/little/", "module m. f() -> <<X||", "module m. f() -> <<X,Y",
		"module m. f() -> - ", "module m. f() -> not", "module m. f() -> a ==", "module m. f() -> a == b", "module m. f() -> a ++ b", "module m. f() -> a = b", "module m. f() -> a ! b", "module m. f() -> fun", "module m. f() -> fun g", "module m. f() -> fun g/", "module m. f() -> fun g/1", "module m. f() -> fun(", "module m. f() -> fun()", "module m. f() -> fun() -> a", "module m. f() -> fun() -> a;", "module m. f() -> fun() -> a; (", "module m. f() -> fun() -> a; (b", "module m. f() -> fun(X) -> a; (b)", "module m. f() -> fun() -> a end",
		"module m. f() -> case", "module m. f() -> case a", "module m. f() -> case a of", "module m. f() -> case a of b", "module m. f() -> case a of b when c", "module m. f() -> case a of b -> c", "module m. f() -> case a of b -> c;", "module m. f() -> case a of b -> c end", "module m. f() -> receive", "module m. f() -> receive a", "module m. f() -> receive a -> b", "module m. f() -> receive after", "module m. f() -> receive after a", "module m. f() -> receive after a -> b",
		"module m. f() -> try", "module m. f() -> try a", "module m. f() -> try a catch", "module m. f() -> try a catch b", "module m. f() -> try a catch X:", "module m. f() -> try a catch X:c", "module m. f() -> try a catch X:c -> d", "module m. f() -> try a catch X:c -> d;", "module m. f() -> try a catch X:c -> d after", "module m. f() -> try a catch X:c -> d after e", "module m. f() -> begin", "module m. f() -> begin a", "module m. f() -> begin a end",
		"module m. f() -> 1;", "module m. f() -> 1; f", "module m. f() -> 1; f(", "module m. f(X) -> 1; f(X", "module m. f() -> 1.", "module m. f() -> 1. f", "module m. f() -> 1. g()"} {
		for _, w := range words {
			heldAgainstGrammar(t, g, ahead+" "+w)
			heldAgainstGrammar(t, g, ahead+" "+w+" 007")
		}
	}
}

func TestHelpersOfGrammar(t *testing.T) {
	g := newGrammar()
	for text, at := range map[string]int{"": 0, "module m.": -1, "module m. f() -> a.": -1, "module m. f() -> a": 18, "module m. f() -> case a of b -> c end.": -1, "module m. f() -> a; g": 20, "module m. f() -> a; f(b) c": 20, "module m. f() -> fun () -> a; (b) c": 30, "module m. f() -> <<1/bits>>.": 25, "module m. f() -> <<1/bits/binary>>.": -1, "module m. f() -> 1 < 2 < 3.": 23, "module m. f() -> <<1/bits": 25} {
		if got := g.firstFault(text); got != at {
			t.Error(text, got, at)
		}
	}
}
