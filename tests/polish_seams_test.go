package tests

import (
	"fmt"
	"slices"
	"strings"
	"testing"

	"loop.example/g00019/impl"
)

// P10: steps are counted at once, behind nothing but pushes and loads.
func TestStepsAreJoinedP10(t *testing.T) {
	polishes(t,
		"f/1 0: Step 1; Step 2; Return ~> f/1 0: Step 3; Return",
		"f/1 0: Step 1; Step 2; Step 4; Step 8; Return ~> f/1 0: Step 15; Return",
		"f/0 0: Step 1; Push 1; Step 2; Return ~> f/0 0: Step 3; Push 1; Return",
		"f/0 1: Step 1; Load 0; Step 2; Return ~> f/0 1: Step 3; Load 0; Return",
		"f/0 1: Step 1; Push #f3{}; Step 2; Load 0; Load 0; Step 4; Push a; Step 8; Step 16; Tuple 4; Return ~> f/0 1: Step 31; Push #f3{}; Load 0; Load 0; Push a; Tuple 4; Return",
		"f/0 0: Push 1; Step 1; Return",
		"f/0 0: Push 1; Step 1; Step 2; Return ~> f/0 0: Push 1; Step 3; Return",
		"f/1 0: Return\ng/1 0: Step 1; Return\nh/1 0: Step 2; Return",
		"f/0 0: Step 1; Push 1; Return\ng/0 0: Push 1; Step 2; Return\nh/0 1: Load 0; Step 2; Return",
		// Not again once something else stands between, until another one stands there.
		"f/1 0: Step 1; Dup; Step 2; Push 1; Step 4; Tuple 3; Step 8; Push 1; Drop; Step 16; Return ~> f/1 0: Step 1; Dup; Step 6; Push 1; Tuple 3; Step 8; Push 1; Drop; Step 16; Return",
		// What was worked out ahead is a push.
		"f/0 0: Step 1; Push 1; Step 2; List 1; Step 4; Tuple 1; Step 8; Return ~> f/0 0: Step 15; Push {[1]}; Return",
		"f/0 0: Step 1; Push a; Push 1; Operate +; Step 2; Return ~> f/0 0: Step 1; Push a; Push 1; Operate +; Step 2; Return",
		"f/0 0: Step 1; List 0; Step 2; Return",
	)
}

// P10: all else that stands between keeps steps apart.
func TestStepsStayApartP10(t *testing.T) {
	seen := map[string]bool{"Step": true, "Push": true, "Load": true}
	for _, between := range strings.Split("Store 0|Pick 0|Dup|Drop|Cut 1|Jump on|Is no 1 b|Same no 1 0|Untuple no 1 1|Unlist no 1 1|Untail no 1 1|IsMap no 1|Get no 1 b|IsBin no 1|Pick 0; Pick 0; Take no 1 8 int|Pick 0; End no 1|Tuple 1|List 1|Cons 0|Map 1 0|Row|Row; Pick 0; Put 8 int|Row; Whole|Row; Row; Join 1|Pick 0; Add 0|Pick 0; Operate +|Unary -|Also on orelse|Call 1|Builtin 1 hd|Remote 1 m:g|Apply 0|Fun 2|Pick 0; Resume|Try up|Guard no2|Guard no2; Ended|True|Gen 0|Pick 0; Next no0|Pick 0; More no0|Pick 0; Pick 0; Took no 1|Filter on|Pick 0; Send|Mark|Letter on|Taken", "|") {
		name := strings.Fields(between[strings.LastIndex(between, ";")+1:])[0]
		seen[name] = true
		code := codeOf("f/2 1: Cut 1; Step 1; " + between + "\nstay: Step 2; Fail 0 done\non: Fail 0 on\nno: Fail 0 no\nno0: Fail 0 no0\nno2: Fail 0 no2\nup: Fail 0 up\ng/1 0: Return\nfun/0 0: Push 1; Return")
		if wrong, at := impl.Verify(code); wrong != impl.OK {
			t.Error(between, wrong, at)
			continue
		}
		less := polished(t, code)
		saysTheSame(t, newChance(74), code, less, 50)
		if len(less.Ins) < 3 || less.Ins[1].Op != impl.OpStep || less.Ins[1].A != 1 {
			t.Errorf("steps are joined over %s\n%s", between, listing(less))
		}
	}
	for _, row := range opRows[1:] {
		if !seen[row.name] && !strings.Contains("Return Fail Raise", row.name) {
			t.Error("not tried:", row.name)
		}
	}
}

// P10: steps are not joined across a seam, but the first OpStep may be at one.
func TestStepsAtSeamsP10(t *testing.T) {
	dup := "f/1 1: Dup; Is on 1 1; "
	polishes(t,
		dup+"Step 1\non: Step 2; Step 4; Return ~> "+dup+"Step 1\non: Step 6; Return",
		dup+"Step 1; Dup; Drop\non: Step 2; Push 1; Step 4; Tuple 2; Return ~> "+dup+"Step 1; Dup; Drop\non: Step 6; Push 1; Tuple 2; Return",
		dup+"Step 1\non: Push 1; Step 2; Step 4; Tuple 2; Return ~> "+dup+"Step 1\non: Push 1; Step 6; Tuple 2; Return",
		dup+"Step 1\non: Load 0; Step 2; Tuple 2; Return",
		dup+"Step 1; Store 0; Step 2; Push 1\non: Push 1; Step 4; Tuple 2; Return",
		"f/1 1: Dup; Is on 1 1; Step 1; Drop; Step 2; Push 1\non: Store 0; Step 4; Load 0; Step 8; Return ~> f/1 1: Dup; Is on 1 1; Step 1; Drop; Step 2; Push 1\non: Store 0; Step 12; Load 0; Return",
		// Each block's first place is one.
		"f/0 0: Push 1; Step 1; Step 2; Return\ng/0 1: Load 0; Step 1; Return\nh/0 0: Step 1; Push 1; Step 2; Return ~> f/0 0: Push 1; Step 3; Return\ng/0 1: Load 0; Step 1; Return\nh/0 0: Step 3; Push 1; Return",
		// A handler's place is one, and what a jump names.
		"f/1 0: Guard on; Push 1; Fail 1 a\non: Step 1; Push 1; Step 2; Tuple 2; Return ~> f/1 0: Guard on; Push 1; Fail 1 a\non: Step 3; Push 1; Tuple 2; Return",
		"f/1 0: Guard on; Ended; Step 1\non: Step 2; Return",
		"f/1 0: Step 1; Jump on\non: Step 2; Return ~> f/1 0: Step 1; Step 2; Return",
	)
}

// stepsOf is how many steps each OpStep of code counts.
func stepsOf(code impl.Code) (row []int) {
	for _, n := range code.Ins {
		if n.Op == impl.OpStep {
			row = append(row, n.A)
		}
	}
	return row
}

// P10: whatever it is whose A names a place, that is a seam.
func TestEachPlaceIsASeamP10(t *testing.T) {
	seen := map[string]bool{"Step": true}
	for _, goes := range strings.Split("Pick 0; Is on 1 b|Pick 0; Same on 1 0|Pick 0; Untuple on 1 0|Pick 0; Unlist on 1 0|Pick 0; Untail on 1 0; Drop|Pick 0; IsMap on 1; Drop|Get on 1 b; Drop|IsBin on 1; Drop|Pick 0; Pick 0; Take on 1 8 int; Cut 1|Pick 0; Pick 0; End on 1|Pick 0; Pick 0; Pick 0; Took on 1; Drop|Pick 0; Also on orelse; Push 1|Try on; Ended; Push 1; Push 2|Guard on; Ended|Pick 0; Pick 0; Next on; Cut 1|Pick 0; Pick 0; More on; Cut 1|Pick 0; Filter on|Letter on; Drop|Pick 0; Is no 1 b; Jump on\nno: Cut 1", "|") {
		for on, want := range map[string][]int{"on": {1, 2}, "elsewhere": {3}} {
			code := codeOf("f/1 1: " + strings.Replace(goes, " on", " "+on, 1) + "; Step 1\non: Step 2; Fail 0 done\nelsewhere: Fail 0 elsewhere")
			less := polished(t, code)
			saysTheSame(t, newChance(75), code, less, 50)
			if steps := stepsOf(less); !slices.Equal(steps, want) {
				t.Errorf("%s to %s: steps %v, not %v\n%s", goes, on, steps, want, listing(less))
			}
			for _, n := range code.Ins {
				seen[opRows[n.Op].name] = seen[opRows[n.Op].name] || isPlace(n)
			}
		}
	}
	for _, row := range opRows[1:] {
		if !seen[row.name] && strings.Contains(row.fields, "A") {
			t.Error("not tried:", row.name)
		}
	}
}

// P10: up to MaxFuel steps, and no more.
func TestStepsJoinedUpToMaxFuelP10(t *testing.T) {
	polishes(t,
		"f/1 0: Step 99999; Step 1; Return ~> f/1 0: Step 100000; Return",
		"f/1 0: Step 1; Step 99999; Return ~> f/1 0: Step 100000; Return",
		"f/1 0: Step 99999; Step 2; Return",
		"f/1 0: Step 100000; Step 1; Return",
		"f/1 0: Step 1; Step 100000; Return",
		"f/1 0: Step 50000; Step 50000; Step 1; Return ~> f/1 0: Step 100000; Step 1; Return",
		// The one that stays may get the next one's.
		"f/1 0: Step 99999; Step 2; Step 99998; Step 1; Step 3; Return ~> f/1 0: Step 99999; Step 100000; Step 4; Return",
		"f/1 0: Step 100000; Push 1; Step 1; Push 2; Step 1; Tuple 3; Return ~> f/1 0: Step 100000; Push 1; Step 2; Push 2; Tuple 3; Return",
		// Not those ahead of it, and nothing is worked out over it.
		"f/1 0: Step 7; Step 99994; Step 8; Return",
		"f/0 0: Step 100000; Push 1; Step 1; Push 2; Tuple 2; Return",
		"f/0 0: Step 100000; Push 1; Step 1; Push 2; Step 1; List 1; Tuple 2; Return ~> f/0 0: Step 100000; Push 1; Step 2; Push [2]; Tuple 2; Return",
	)
}

// P10: what is made of pushes alone is pushed.
func TestWorkedOutAheadP10(t *testing.T) {
	polishes(t,
		"f/0 0: Push 1; Tuple 1; Return ~> f/0 0: Push {1}; Return",
		"f/0 0: Push 1; Push a; Tuple 2; Return ~> f/0 0: Push {1, a}; Return",
		"f/0 0: Push 1; Push a; List 2; Return ~> f/0 0: Push [1, a]; Return",
		"f/0 0: Push 1; Push a; Push [2]; Cons 2; Return ~> f/0 0: Push [1, a, 2]; Return",
		"f/0 0: Push [2]; Cons 0; Return ~> f/0 0: Push [2]; Return",
		"f/0 0: Push a; Push 1; Push b; Push 2; Map 0 2; Return ~> f/0 0: Push #{a => 1, b => 2}; Return",
		"f/0 0: Push b; Push 1; Push a; Push 2; Push b; Push 3; Map 0 3; Return ~> f/0 0: Push #{a => 2, b => 3}; Return",
		"f/0 0: Push a; Push 1; Push #{a => 0, b => 2}; Map 1 1; Return ~> f/0 0: Push #{a => 1, b => 2}; Return",
		"f/0 0: Push #{a => 0}; Map 1 0; Return ~> f/0 0: Push #{a => 0}; Return",
		"f/0 0: Push 7; Push 2; Operate -; Return ~> f/0 0: Push 5; Return",
		"f/0 0: Push 7; Unary -; Return ~> f/0 0: Push -7; Return",
		"f/0 0: Push true; Unary not; Return ~> f/0 0: Push false; Return",
		// As many as are taken, and no more.
		"f/0 0: Push x; Push 1; Push 2; Tuple 2; Tuple 2; Tuple 1; Return ~> f/0 0: Push {{x, {1, 2}}}; Return",
		"f/1 0: Push 1; Push 2; Tuple 2; Tuple 2; Return ~> f/1 0: Push {1, 2}; Tuple 2; Return",
		"f/1 0: Push 1; Push 2; Push 3; Operate +; Tuple 3; Return ~> f/1 0: Push 1; Push 5; Tuple 3; Return",
		"f/0 1: Load 0; Push 1; Push 2; List 2; List 2; Return ~> f/0 1: Load 0; Push [1, 2]; List 2; Return",
		// With fewer than it takes.
		"f/1 0: Push 1; Tuple 2; Return",
		"f/1 0: Push []; Cons 1; Return",
		"f/1 0: Push 1; Operate +; Return",
		"f/2 0: Push 1; Push #{}; Map 1 1; Tuple 2; Return",
		"f/0 0: Push 1; Dup; Tuple 2; Return",
		"f/0 0: Push 1; Push 2; Drop; Push 3; Tuple 2; Return",
		"f/1 0: Unary -; Return",
		// With none to take.
		"f/0 0: Tuple 0; Return",
		"f/0 0: List 0; Return",
		"f/0 0: Map 0 0; Return",
		"f/0 0: Push 1; Tuple 0; Push 2; Tuple 3; Return",
		"f/0 0: Push 1; List 0; Tuple 2; Return",
		"f/0 0: Push a; Map 0 0; Tuple 2; Return",
		// What else takes values is not worked out.
		"f/0 0: Push [1]; Builtin 1 length; Return",
		"f/0 0: Push 1; Push 2; Call 1; Return\ng/2 0: Tuple 2; Return",
		"f/0 0: Push true; Also on orelse; Push 1\non: Return",
		"f/0 0: Push 1; Fun 1; Return\nfun/0 1 1: Load 0; Return",
		"f/0 0: Row; Push 7; Put 8 int; Whole; Return",
		"f/0 0: Push <<>>; Push 0; Whole; Return",
		"f/0 0: Push []; Push 1; Add 0; Return",
		"f/0 0: Push 1; Push 2; Drop; Return",
		"f/0 0: Push 1; Dup; Drop; Return",
		"f/0 1: Push 1; Store 0; Load 0; Return",
		"f/0 0: Push {1}; Untuple no 0 1; Return\nno: Fail 0 no",
	)
}

// P10: each operator, worked out as 4.2 says.
func TestOperatorsWorkedOutAheadP10(t *testing.T) {
	for _, row := range []string{
		"1 2 + 3", "1 2 - -1", "3 4 * 12", "-7 2 div -3", "-7 2 rem -1", "1 1 == true", "1 2 == false", "1 1 =:= true", "1 a /= true", "a a =/= false", "1 a < true", "a 1 < false", "a a =< true", "b a > true", "a a >= true", "[1] [2] ++ [1,2]", "[] [] ++ []", "true false and false", "true true and true", "false true or true", "false false or false",
		"1000000000000000 -1 + 999999999999999", "-1000000000000000 0 - -1000000000000000", "{1} {1,2} < true", "#{} [] < true", "<<1>> [] > true",
	} {
		w := strings.Fields(row)
		polishes(t, fmt.Sprintf("f/0 0: Push %s; Push %s; Operate %s; Return ~> f/0 0: Push %s; Return", w[0], w[1], w[2], w[3]))
	}
}

// P10: what would be an error stays, and is one when it is run.
func TestErrorsAreNotWorkedOutP10(t *testing.T) {
	for want, texts := range map[string]string{
		"error badarith":    "Push 1; Push 0; Operate div|Push 1; Push 0; Operate rem|Push a; Push 1; Operate +|Push 1; Push []; Operate *|Push a; Unary -|Push []; Unary -",
		"error badarg":      "Push 1; Push 2; Cons 1|Push a; Cons 0|Push 1; Push []; Operate ++|Push []; Push {}; Operate ++|Push 1; Unary not",
		"error {badmap, 1}": "Push a; Push b; Push 1; Map 1 1|Push 1; Map 1 0", "error {badarg, 1}": "Push 1; Push true; Operate and|Push true; Push 1; Operate and|Push 1; Push 2; Operate or",
		"error system_limit": "Push 1000000000000000; Push 1; Operate +|Push -1000000000000000; Push 1; Operate -|Push 1000000000000000; Push 2; Operate *",
	} {
		for text := range strings.SplitSeq(texts, "|") {
			polishes(t, "f/0 0: Step 1; "+text+"; Return", "f/0 0: Guard on; "+text+"; Fail 1 done\non: Push up; Return")
			runs(t, "f/0 0: Step 1; "+text+"; Return", want, 2)
		}
	}
}

// P10: what is too large to be a term is not made.
func TestTooLargeIsNotWorkedOutP10(t *testing.T) {
	for _, x := range []struct {
		text string // @ is a term
		most impl.Term
		more impl.Term
	}{
		{"Push @; Tuple 1", many(num(1), 1998), many(num(1), 1999)}, {"Push @; List 1", many(num(1), 1998), many(num(1), 1999)}, {"Push @; Push 1; Tuple 2", many(num(1), 1997), many(num(1), 1998)},
		{"Push 1; Push @; Cons 1", many(num(1), 1998), many(num(1), 1999)}, {"Push @; Push [1]; Operate ++", many(num(1), 1998), many(num(1), 1999)}, {"Push a; Push @; Map 0 1", many(num(1), 1997), many(num(1), 1998)},
		{"Push @; Tuple 1", nest(num(1), 98), nest(num(1), 99)}, {"Push @; List 1", nest(num(1), 98), nest(num(1), 99)}, {"Push @; Push []; Cons 1", nest(num(1), 98), nest(num(1), 99)}, {"Push @; Push 1; Map 0 1", nest(num(1), 98), nest(num(1), 99)},
		{"Push @; Push 1; Operate +", num(impl.MaxInt - 1), num(impl.MaxInt)}, {"Push @; Push -1; Operate +", num(1 - impl.MaxInt), num(-impl.MaxInt)},
	} {
		for _, v := range []impl.Term{x.most, x.more} {
			text := "f/0 0: Step 1; " + strings.Replace(x.text, "@", shownTerm(v), 1) + "; Return"
			code := codeOf(text)
			less := polished(t, code)
			saysTheSame(t, newChance(76), code, less, 50)
			if fits := same(v, x.most); fits != (len(less.Ins) == 3) || !fits && !sameCode(less, code) {
				t.Errorf("%s of a term of %d kids becomes %d instructions", x.text, len(v.Kids), len(less.Ins))
			}
		}
	}
	// As many as there may be.
	for _, n := range []int{1999, 2000} {
		code := codeOf("f/0 0: " + strings.Repeat("Push 1; ", n) + fmt.Sprintf("Tuple %d; Return", n))
		less := polished(t, code)
		if n == 1999 && !sameCode(less, codeOf("f/0 0: Push "+shownTerm(tuple(slicesOf(n, num(1))...))+"; Return")) || n == 2000 && !sameCode(less, code) {
			t.Error(n, len(less.Ins))
		}
	}
}

// P10: a Fun among what is taken, whatever it is, but not one within.
func TestFunsAreNotWorkedWithP10(t *testing.T) {
	for _, text := range []string{
		"Push #f3{}; Tuple 1", "Push #f3{}; Push 1; Tuple 2", "Push 1; Push #f3{}; Tuple 2", "Push #f60{1, 2}; List 1", "Push 1; Push #f3{}; Push 2; List 3", "Push #f3{}; Push []; Cons 1", "Push 1; Push #f3{}; Cons 1", "Push #f3{}; Cons 0", "Push a; Push #f3{}; Map 0 1", "Push #f3{}; Push a; Map 0 1", "Push a; Push 1; Push #f3{}; Map 1 1", "Push #f3{}; Map 1 0",
		"Push #f3{}; Push #f3{}; Operate ==", "Push 1; Push #f3{}; Operate <", "Push #f3{}; Push 1; Operate <", "Push #f3{}; Unary -", "Push 0; Push #f1000000000000000{}; Tuple 2",
	} {
		polishes(t, "f/0 0: "+text+"; Return", "f/0 0: Step 1; "+strings.ReplaceAll(text, "; ", "; Step 1; ")+"; Return ~> f/0 0: Step "+fmt.Sprint(1+strings.Count(text, ";"))+"; "+text+"; Return")
	}
	polishes(t,
		"f/0 0: Push {#f3{}}; Tuple 1; Return ~> f/0 0: Push {{#f3{}}}; Return",
		"f/0 0: Push [#f3{}]; Push []; Operate ++; Return ~> f/0 0: Push [#f3{}]; Return",
		"f/0 0: Push #f3{}; Push 1; Tuple 1; Tuple 2; Return ~> f/0 0: Push #f3{}; Push {1}; Tuple 2; Return",
		"f/0 0: Push #f3{}; Tuple 1; Push 1; Tuple 1; Tuple 2; Return ~> f/0 0: Push #f3{}; Tuple 1; Push {1}; Tuple 2; Return",
	)
}

// P10: what is taken may be at a seam where it is the first; what takes it may not.
func TestWorkedOutAtSeamsP10(t *testing.T) {
	for _, x := range []struct{ pushes, makes, made string }{
		{"Push 1; Push 2; Push 3", "Tuple 3", "{1, 2, 3}"}, {"Push 1; Push 2; Push 3", "List 3", "[1, 2, 3]"}, {"Push 1; Push 2; Push [3]", "Cons 2", "[1, 2, 3]"}, {"Push a; Push 2; Push #{a => 3}", "Map 1 1", "#{a => 2}"}, {"Push a; Push 2; Push b; Push 3", "Map 0 2", "#{a => 2, b => 3}"},
		{"Push 1; Push 2", "Operate -", "-1"}, {"Push [1]; Push [2]", "Operate ++", "[1, 2]"}, {"Push 5", "Unary -", "-5"}, {"Push 5", "Tuple 1", "{5}"},
	} {
		row := append(strings.Split(x.pushes, "; "), x.makes)
		for k := range row {
			// A jump that is never left out goes to the k-th of the row, with as many values.
			ahead := "f/1 1: Dup; Filter no; " + strings.Repeat("Push q; ", k) + "Jump on\nno: Guard up; Step 1; Ended; "
			up := "\nup: Fail 0 up"
			want := ahead + strings.Join(row[:k], "; ") + "\non: " + strings.Join(row[k:], "; ") + "; Tuple 2; Return" + up
			text := want
			if k == 0 {
				want = ahead + "on: Push " + x.made + "; Tuple 2; Return" + up
			}
			polishes(t, text+" ~> "+want)
		}
	}
	again := "f/1 1: Dup; Filter no; Push q; Jump on\nno: Guard up; Step 1; Ended; "
	polishes(t,
		// What is made stands at the seam of the first that it is made of.
		again+"Push 0\non: Push 1; Push 2; Tuple 2; Tuple 2; Tuple 2; Return\nup: Fail 0 up ~> "+again+"Push 0\non: Push {1, 2}; Tuple 2; Tuple 2; Return\nup: Fail 0 up",
		again+"Push 0\non: Push 1; Unary -; Push 2; Operate +; Operate +; Tuple 2; Return\nup: Fail 0 up ~> "+again+"Push 0\non: Push 1; Operate +; Tuple 2; Return\nup: Fail 0 up",
		// Behind it all begins anew.
		again+"Push 0\non: Drop; Push 1; Push 2; Tuple 2; Tuple 2; Return\nup: Fail 0 up ~> "+again+"Push 0\non: Drop; Push {1, 2}; Tuple 2; Return\nup: Fail 0 up",
		again+"Push 0\non: Push 1; Push 2; Push 3; Operate +; Operate +; Tuple 3; Return\nup: Fail 0 up ~> "+again+"Push 0\non: Push 6; Tuple 3; Return\nup: Fail 0 up",
		// A block's first place is a seam of its own.
		"f/0 0: Push 1; Push 2; Tuple 2; Return\ng/1 0: Tuple 1; Return\nh/0 0: Push 1; Tuple 1; Return ~> f/0 0: Push {1, 2}; Return\ng/1 0: Tuple 1; Return\nh/0 0: Push {1}; Return",
	)
}
