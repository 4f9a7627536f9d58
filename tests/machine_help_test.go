package tests

import (
	"slices"
	"strings"
	"testing"

	"loop.example/g00019/impl"
)

// ran is what Run answers of f of sound code with plenty of fuel. At each fuel Run
// and Calls have to say what the second reading says: ahead of the steps that were
// counted the fuel is out. (Of many fuels it tries the first and the last ones.)
func ran(t *testing.T, code impl.Code, args ...impl.Term) impl.Answer {
	t.Helper()
	if wrong, at := impl.Verify(code); wrong != impl.OK {
		t.Fatalf("no sound code: %d at %d\n%s", wrong, at, listing(code))
	}
	whole := ranAt(t, code, args, 3000)
	for fuel := range whole.Used + 2 {
		if fuel > 70 && fuel < whole.Used-3 || whole.Class == impl.AnFuel && fuel > whole.Used {
			continue
		}
		want := whole
		if fuel < whole.Used {
			want = impl.Answer{Class: impl.AnFuel, Used: fuel}
		}
		if a := ranAt(t, code, args, fuel); !sameAnswer(a, want) {
			t.Errorf("at a fuel of %d: %s, %d used, not %s, %d used\n%s", fuel, shown(a), a.Used, shown(want), want.Used, listing(code))
		}
	}
	return whole
}

// ranAt is what Run answers, held against the second reading, as the blocks that it begins are.
func ranAt(t *testing.T, code impl.Code, args []impl.Term, fuel int) impl.Answer {
	t.Helper()
	a, wrong := impl.Run(code, "f", args, fuel)
	begun, wrongToo := impl.Calls(code, "f", args, fuel)
	b, calls := runByWords(code, "f", args, fuel)
	if wrong != impl.OK || !sameAnswer(a, b) {
		t.Errorf("Run of %v at a fuel of %d: %s, %d used, code %d; by the words %s, %d used\n%s", args, fuel, shown(a), a.Used, wrong, shown(b), b.Used, listing(code))
	}
	if wrongToo != impl.OK || !slices.Equal(begun, calls) {
		t.Errorf("Calls of %v at a fuel of %d: %v, code %d; by the words %v\n%s", args, fuel, begun, wrongToo, calls, listing(code))
	}
	return a
}

// runsCode asks what f of code answers, and how many steps that takes.
func runsCode(t *testing.T, code impl.Code, want string, used int, args ...impl.Term) {
	t.Helper()
	if a := ran(t, code, args...); shown(a) != want || a.Used != used {
		t.Errorf("%s, %d used, not %s, %d used\n%s", shown(a), a.Used, want, used, listing(code))
	}
}

// runs asks it of code as these tests write it.
func runs(t *testing.T, text string, want string, used int, args ...impl.Term) {
	t.Helper()
	runsCode(t, codeOf(text), want, used, args...)
}

// doing is instructions of a block f of one argument that has three slots, what they answer, and the steps that they count beside the call's.
type doing struct {
	body, x, want string
	steps         int
}

// eachDoes asks what rows of instructions do.
func eachDoes(t *testing.T, rows ...doing) {
	t.Helper()
	for _, x := range rows {
		runs(t, "f/1 3: "+x.body, x.want, 1+x.steps, term(x.x))
	}
}

// eachFits asks it of one body: for each term that stands ahead of an arrow what is answered, with one step.
func eachFits(t *testing.T, body string, rows ...string) {
	t.Helper()
	for _, row := range rows {
		x, want, _ := strings.Cut(row, " -> ")
		eachDoes(t, doing{body, x, want, 0})
	}
}

func TestConstantsOfMachine(t *testing.T) {
	if impl.MaxCalls != 200 {
		t.Error(impl.MaxCalls)
	}
}
