package tests

import (
	"fmt"
	"slices"
	"strings"
	"testing"

	"loop.example/g00019/impl"
)

// P7: at all the fuel that there may be, and ahead of it.
func TestFunctionsThatNeverEndRunP7(t *testing.T) {
	t.Parallel()
	for _, forms := range endless {
		code := compiled(t, meant(t, forms))
		for _, fuel := range []int{0, 1, 2, 3, 10, 999, impl.MaxFuel - 1, impl.MaxFuel} {
			if a, wrong := impl.Run(code, "f", nil, fuel); wrong != impl.OK || !sameAnswer(a, impl.Answer{Class: impl.AnFuel, Used: fuel}) {
				t.Errorf("%s\nat a fuel of %d: %s, %d used, code %d", forms, fuel, shown(a), a.Used, wrong)
			}
		}
	}
}

// P7: modules by chance, run as Eval works them out, with each class and at many fuels.
func TestRunIsEvalP7(t *testing.T) {
	t.Parallel()
	r := newChance(31)
	classes := map[int]int{}
	for i, m := range spokenModules(t, 4000) {
		tree := flat(m)
		code := compiled(t, tree)
		most := 1000
		if i%50 == 0 {
			most = impl.MaxFuel
		}
		for range 4 {
			args := []impl.Term{anyTerm(r.Rand, 2), anyTerm(r.Rand, 2)}
			whole, _ := impl.Eval(tree, "f", args, most)
			for _, fuel := range []int{most, whole.Used, max(0, whole.Used-1), r.Intn(50)} {
				a, _ := impl.Eval(tree, "f", args, fuel)
				if b, wrong := impl.Run(code, "f", args, fuel); wrong != impl.OK || !sameAnswer(a, b) {
					t.Fatalf("%s\nof %v at %d: %s, %d used; run %s, %d used, code %d\n%s", textByForms(m), args, fuel, shown(a), a.Used, shown(b), b.Used, wrong, listing(code))
				}
				classes[a.Class]++
			}
		}
	}
	for class := impl.AnValue; class <= impl.AnFuel; class++ {
		if classes[class] < 100 {
			t.Error("too few answers of class", class, classes)
		}
	}
}

// endsAt asks that a run of code ends, whatever the code says: with just the steps
// that were counted in the same way, with one fewer for want of fuel.
func endsAt(t *testing.T, code impl.Code, name string, args []impl.Term, fuel int) impl.Answer {
	t.Helper()
	at := func(fuel int) impl.Answer {
		a, wrong := impl.Run(code, name, args, fuel)
		if b, _ := runByWords(code, name, args, fuel); wrong != impl.OK || !sameAnswer(a, b) {
			t.Fatalf("Run of %v at a fuel of %d: %s, %d used, code %d; by the words %s, %d used\n%s", args, fuel, shown(a), a.Used, wrong, shown(b), b.Used, listing(code))
		}
		return a
	}
	a := at(fuel)
	if !between(a.Class, impl.AnValue, impl.AnFuel) || !between(a.Used, 0, fuel) || a.Class != impl.AnFuel && !impl.TermOK(a.V) || a.Class == impl.AnFuel && (!zero(a.V) || a.Used != fuel) {
		t.Fatalf("%+v\n%s", a, listing(code))
	}
	if again := at(a.Used); !sameAnswer(again, a) {
		t.Fatalf("%s at %d, %s at %d\n%s", shown(a), fuel, shown(again), a.Used, listing(code))
	}
	if a.Used > 0 {
		if less := at(a.Used - 1); less.Class != impl.AnFuel || less.Used != a.Used-1 {
			t.Fatalf("%s at %d, %s at one less\n%s", shown(a), a.Used, shown(less), listing(code))
		}
	}
	return a
}

// tally counts answers by their classes, and the errors that are told apart.
func tally(seen map[string]int, a impl.Answer) {
	what := []string{"value", "error", "throw", "exit", "fuel"}[a.Class]
	seen[what]++
	if a.Class == impl.AnError && a.V.Kind == impl.TmAtom {
		seen[a.V.S]++
	}
}

// tallied asks that each of some words was counted often enough.
func tallied(t *testing.T, seen map[string]int, least int, words string) {
	t.Helper()
	for w := range strings.FieldsSeq(words) {
		if seen[w] < least {
			t.Error("too few of", w, seen)
		}
	}
	t.Log(seen)
}

// P8: compiled code that is spoilt in one field or two, when it is sound.
func TestSpoiltCodeEndsP8(t *testing.T) {
	t.Parallel()
	r := &speaker{chance: newChance(32)}
	seen := map[string]int{}
	for _, m := range spokenModules(t, 1500) {
		whole := compiled(t, flat(m))
		for range 25 {
			code := r.spoiltCode(whole)
			if r.Intn(3) == 0 {
				code = r.spoiltCode(code)
			}
			if wrong, _ := impl.Verify(code); wrong != impl.OK || sameCode(code, whole) {
				continue
			}
			f := code.Fns[0]
			if f.Arity > impl.MaxArgs {
				continue
			}
			var args []impl.Term
			for range f.Arity {
				args = append(args, anyTerm(r.Rand, 2))
			}
			tally(seen, endsAt(t, code, f.Name, args, 300))
			seen["sound"]++
		}
	}
	tallied(t, seen, 3000, "sound")
	tallied(t, seen, 10, "value error throw exit fuel bad_code function_clause badarg not_pure undef badarith")
}

// P8: short codes by chance, when they are sound.
func TestAnyCodeEndsP8(t *testing.T) {
	t.Parallel()
	r := &speaker{chance: newChance(33)}
	seen := map[string]int{}
	for range 150000 {
		code := r.anyCode()
		if wrong, _ := impl.Verify(code); wrong != impl.OK {
			continue
		}
		args := []impl.Term{anyTerm(r.Rand, 1), anyTerm(r.Rand, 1), anyTerm(r.Rand, 1)}[:code.Fns[0].Arity]
		tally(seen, endsAt(t, code, "f", args, 50))
		seen["sound"]++
	}
	tallied(t, seen, 3000, "sound")
}

// What instructions find: Bins, marks, sizes, Lists, rows (two values) and others.
var found = map[byte][]string{
	'b': {"<<>>", "<<1>>", "<<128>>", "<<1, 2>>", "<<255, 0, 7>>"},
	'm': {"0", "1", "2", "7", "8", "9", "16", "24"},
	's': {"0", "1", "4", "8", "9", "16", "49", "50", "-1"},
	'l': {"[]", "[1]", "[a, 2]", "[1, 2, 3]", "[[], 255]"},
	'c': {"error", "throw", "exit", "value"},
	't': {"true", "false"},
	'k': {"#{}", "#{a => 1}", "#{0 => [], a => 2}"},
	'u': {"{}", "{1}", "{a, 2}", "{1, 2, 3}"},
	'f': {"#f3{}", "#f5{}", "#f7{}", "#f9{}", "#f13{}", "#f15{}", "#f17{}", "#f60{1, 2}", "#f60{1}", "#f70{}", "#f70{0}", "#f10{}"},
	'r': {"<<>>; 0", "<<1>>; 8", "<<128>>; 1", "<<254>>; 7", "<<1, 2>>; 16", "<<1, 128>>; 9", "<<1>>; 7", "<<>>; 1"},
}

// wantedByOp is what each operation finds on the stack when nothing is wrong, the lowest one first.
var wantedByOp = map[string]string{
	"Untuple": "u", "Unlist": "l", "Untail": "l", "IsMap": "k", "Get": "k", "IsBin": "b", "Take": "bms", "End": "bm", "Cons": "1l", "Map": "1111k", "Put": "r1s", "Whole": "r", "Join": "r1r", "Add": "l11", "Operate": "mm", "Unary": "m", "Also": "t",
	"Apply": "f1", "Raise": "1c", "Resume": "1c", "True": "t", "Gen": "l", "Next": "lm", "More": "bm", "Took": "mbm", "Filter": "t", "Is": "t", "Same": "m",
}

func (r *speaker) found(kind byte) []string {
	row, is := found[kind]
	if !is || r.Intn(6) == 0 {
		kinds := "bmslctkufr"
		row = found[kinds[r.Intn(len(kinds))]]
	}
	return strings.Split(r.of(row...), "; ")
}

// instruction is an operation with fields by chance; A leads to no.
func (r *speaker) instruction(row opRow, values int) string {
	words := []string{row.name}
	for _, f := range row.fields {
		switch f {
		case 'A':
			words = append(words, "no")
		case 'B':
			words = append(words, fmt.Sprint(r.Intn(min(values, 3)+1)))
		case 'C':
			first := map[string]int{"Call": 1, "Fun": 5}[row.name]
			many, is := map[string]int{"Take": 32, "Put": 32, "Fun": 3}[row.name]
			if !is {
				many = 4
			}
			words = append(words, fmt.Sprint(first+r.Intn(many)))
		case 'S':
			words = append(words, map[string]func() string{
				"Take": func() string { return r.of("int", "binary") }, "Put": func() string { return r.of("int", "binary") }, "Fail": func() string { return "oops" },
				"Operate": func() string {
					return r.of("and", "or", "==", "/=", "=:=", "=/=", "<", "=<", ">", ">=", "++", "+", "-", "*", "div", "rem")
				}, "Unary": func() string { return r.of("-", "not") }, "Also": func() string { return r.of("andalso", "orelse") },
				"Builtin": func() string {
					return r.of("hd", "throw", "length", "element", "map_get", "setelement", "self", "exit")
				}, "Remote": func() string { return r.of("m:g", "m:hd", "m:h", "m:length", "m:element", "n:g", "m:self", "m:none") },
			}[row.name]())
		case 'V':
			words = append(words, r.of(found["bmltu"[r.Intn(5)]]...))
		}
	}
	return strings.Join(words, " ")
}

// elsewhere are the operations that the next test leaves out.
var elsewhere = strings.Fields("Step Jump Return Try Guard Ended Letter")

// stacker makes such code; its rules tell how many values an instruction leaves.
type stacker struct {
	*speaker
	rules
}

// stacked is code in which an instruction finds values by chance, most of them such as the table says,
// and what there is then is answered: as it goes on at the next instruction, where A leads, or at a handler.
func (r *stacker) stacked(row opRow) impl.Code {
	var pushes []string
	for range r.Intn(4) {
		pushes = append(pushes, r.found('?')...)
	}
	for _, kind := range []byte(wantedByOp[row.name]) {
		pushes = append(pushes, r.found(kind)...)
	}
	values := 1 + len(pushes)
	text := r.instruction(row, values)
	n := insOf(text, map[string]int{"no": 0})
	away := map[string]int{"Next": values - 2, "More": values - 2, "Filter": values - 1, "Also": values}[row.name] + n.B
	next := values + r.rules.leaves(n, row.name, values)
	body := ""
	for _, v := range pushes {
		body += "Push " + v + "; "
	}
	end := "Return"
	if r.Intn(2) == 0 && len(pushes) > 0 {
		body, next, away, end = "Try on; "+body, next-1, away-1, "Fail 1 done"
	}
	return callable(fmt.Sprintf("%s%s; List %d; %s\nno: List %d; %s\non: Tuple 3; Return", body, text, max(0, next), end, max(0, away), end))
}

// P8: each instruction on many stacks.
func TestInstructionsOnAnyStackP8(t *testing.T) {
	t.Parallel()
	r := &stacker{&speaker{chance: newChance(34)}, rules{code: callable("Return")}}
	seen := map[string]int{}
	for i := range 60000 {
		row := opRows[1+i%53]
		if slices.Contains(elsewhere, row.name) {
			continue
		}
		code := r.stacked(row)
		if wrong, _ := impl.Verify(code); wrong == impl.OK {
			seen[row.name]++
			tally(seen, endsAt(t, code, "f", []impl.Term{atom("x")}, 30))
		}
	}
	for _, row := range opRows[1:] {
		if seen[row.name] < 100 && !slices.Contains(elsewhere, row.name) {
			t.Error("too few", row.name, seen[row.name])
		}
	}
	tallied(t, seen, 100, "value error bad_code badarg throw")
}
