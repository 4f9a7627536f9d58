package tests

import (
	"slices"
	"strings"
	"testing"

	"loop.example/g00019/impl"
)

// polished is what Polish makes of sound code: sound code, each of its
// instructions reached, no longer, and what the second reading makes of it, too.
func polished(t *testing.T, code impl.Code) impl.Code {
	t.Helper()
	before := copiedCode(code)
	if wrong, at := impl.Verify(code); wrong != impl.OK {
		t.Fatalf("no sound code: %d at %d\n%s", wrong, at, listing(code))
	}
	less, wrong := impl.Polish(code)
	if wrong != impl.OK || !sameCode(code, before) {
		t.Fatalf("Polish: code %d\n%s\nof %s", wrong, listing(code), listing(before))
	}
	if wrong, at := impl.Verify(less); wrong != impl.OK || len(less.Ins) > len(code.Ins) {
		t.Fatalf("what Polish makes: %d at %d\n%s\nof %s", wrong, at, listing(less), listing(code))
	}
	for _, c := range []impl.Code{code, less} {
		reached, wrong := impl.Reach(c)
		if words := reachedByWords(c); wrong != impl.OK || !slices.Equal(reached, words) {
			t.Fatalf("Reach: %v, code %d; by the words %v\n%s", reached, wrong, words, listing(c))
		}
	}
	if reached, _ := impl.Reach(less); slices.Contains(reached, false) {
		t.Fatalf("not reached: %v\n%s\nof %s", reached, listing(less), listing(code))
	}
	if words := polishByWords(code); !sameCode(less, words) {
		t.Fatalf("Polish by the words: %s\n%s\nof %s", unlike(less, words), listing(less), listing(code))
	}
	return less
}

// saysTheSame asks that polished code, whichever of its functions is run, answers what the code
// does and begins the same blocks: at the fuel that was used, at one step less, and at others.
func saysTheSame(t *testing.T, r chance, code, less impl.Code, fuel int) (answers []impl.Answer) {
	t.Helper()
	for _, f := range code.Fns {
		if f.Name == "" || f.Arity > impl.MaxArgs {
			continue
		}
		var args []impl.Term
		for range f.Arity {
			args = append(args, anyTerm(r.Rand, 2))
		}
		whole, wrong := impl.Run(code, f.Name, args, fuel)
		if wrong != impl.OK {
			t.Fatalf("Run of %s: code %d\n%s", f.Name, wrong, listing(code))
		}
		answers = append(answers, whole)
		fuels := []int{fuel, whole.Used, max(0, whole.Used-1), r.Intn(1 + whole.Used), r.Intn(5)}
		slices.Sort(fuels)
		for _, fuel := range slices.Compact(fuels) {
			a, wrongA := impl.Run(code, f.Name, args, fuel)
			b, wrongB := impl.Run(less, f.Name, args, fuel)
			if wrongA != wrongB || !sameAnswer(a, b) {
				t.Fatalf("Run of %s of %v at a fuel of %d: %s, %d used, code %d; polished %s, %d used, code %d\n%s\nof %s", f.Name, args, fuel, shown(a), a.Used, wrongA, shown(b), b.Used, wrongB, listing(less), listing(code))
			}
			begunA, wrongA := impl.Calls(code, f.Name, args, fuel)
			begunB, wrongB := impl.Calls(less, f.Name, args, fuel)
			if wrongA != wrongB || !slices.Equal(begunA, begunB) {
				t.Fatalf("Calls of %s of %v at a fuel of %d: %v, code %d; polished %v, code %d\n%s\nof %s", f.Name, args, fuel, begunA, wrongA, begunB, wrongB, listing(less), listing(code))
			}
		}
	}
	return answers
}

// polishes asks what code that these tests write becomes; each row is a text and what that becomes, with ~> between them.
func polishes(t *testing.T, rows ...string) {
	t.Helper()
	for _, row := range rows {
		text, want, is := strings.Cut(row, " ~> ")
		if !is {
			want = text // it stays as it is
		}
		code := codeOf(text)
		less := polished(t, code)
		if !sameCode(less, codeOf(want)) {
			t.Errorf("%s\nbecomes %s\nand not %s: %s", text, listing(less), want, unlike(less, codeOf(want)))
		}
		saysTheSame(t, newChance(71), code, less, 300)
	}
}

// reaches asks which instructions are reached: those that have a # in the second half of a row.
func reaches(t *testing.T, rows ...string) {
	t.Helper()
	for _, row := range rows {
		text, want, _ := strings.Cut(row, " ~> ")
		code := codeOf(text)
		polished(t, code)
		got := ""
		reached, wrong := impl.Reach(code)
		for _, is := range reached {
			got += map[bool]string{true: "#", false: "."}[is]
		}
		if wrong != impl.OK || got != want {
			t.Errorf("%s\nis reached %s, code %d, and not %s", text, got, wrong, want)
		}
	}
}

// refusesToPolish asks for ErrBad of Reach and of Polish, and for nothing beside it.
func refusesToPolish(t *testing.T, what string, code impl.Code) {
	t.Helper()
	if reached, wrong := impl.Reach(code); wrong != impl.ErrBad || len(reached) != 0 {
		t.Errorf("Reach of %s: %v, code %d", what, reached, wrong)
	}
	if less, wrong := impl.Polish(code); wrong != impl.ErrBad || !zeroCode(less) {
		t.Errorf("Polish of %s: code %d\n%s", what, wrong, listing(less))
	}
}
