package tests

import (
	"fmt"
	"strings"
	"testing"

	"loop.example/g00019/impl"
)

// P8: what goes up by itself, and who goes on with it.
func TestClassesGoUpP8(t *testing.T) {
	for class, want := range map[string]string{"error": "error {v}", "throw": "throw {v}", "exit": "exit {v}", "value": "error bad_code", "fuel": "error bad_code", "1": "error bad_code", "{}": "error bad_code", "[]": "error bad_code", "<<101>>": "error bad_code"} {
		eachDoes(t, doing{"Push " + class + "; Raise", "{v}", want, 0})
		if class == "value" {
			want = "{a, {v}}"
		}
		eachDoes(t, doing{"Push a; Pick 0; Push " + class + "; Resume; Tuple 3; Untuple no 0 3; Store 0; Store 1; Drop; Load 1; Load 0; Tuple 2; Return\nno: Fail 0 no", "{v}", want, 0})
	}
	eachDoes(t, doing{"Try on; Push 1; Push throw; Raise\non: Tuple 3; Return", "a", "{a, 1, throw}", 0}, doing{"Try on; Push 1; Push ok; Raise\non: Tuple 3; Return", "a", "{a, bad_code, error}", 0}, doing{"Try on; Push 1; Push exit; Resume; Drop; Fail 0 no\non: Tuple 3; Return", "a", "{a, 1, exit}", 0}, doing{"Try on; Push 1; Push ok; Resume; Drop; Fail 0 no\non: Tuple 3; Return", "a", "{a, bad_code, error}", 0})
}

// P8: the latest handler takes what goes up: the stack is cut to what there was at its instruction.
func TestHandlersTakeWhatGoesUpP8(t *testing.T) {
	eachDoes(t, []doing{
		{"Try on; Push 1; Push 2; Fail 1 oops\non: Tuple 3; Return", "a", "{a, {oops, 2}, error}", 0}, {"Push b; Try on; Push 1; Fail 0 oops\non: Tuple 4; Return", "a", "{a, b, oops, error}", 0},
		{"Guard on; Push 1; Push 2; Fail 1 oops\non: Tuple 1; Return", "a", "{a}", 0}, {"Push b; Guard on; Fail 0 oops\non: Tuple 2; Return", "a", "{a, b}", 0}, {"Cut 0; Try on; Fail 0 oops\non: Tuple 2; Return", "a", "{oops, error}", 0}, {"Cut 0; Guard on; Fail 0 oops\non: Push yes; Return", "a", "yes", 0},
		{"Guard on; Push 1; Push throw; Raise\non: Return", "a", "a", 0}, {"Guard on; Push 1; Push exit; Raise\non: Return", "a", "a", 0},
		// The latest of two; then the one ahead of it.
		{"Try one; Push b; Try two; Fail 0 oops\ntwo: Tuple 3; Fail 1 more\none: Tuple 3; Return", "a", "{a, {more, {b, oops, error}}, error}", 0}, {"Guard one; Push b; Try two; Fail 0 oops\ntwo: Fail 0 more\none: Return", "a", "a", 0}, {"Try one; Push b; Guard two; Fail 0 oops\ntwo: Fail 1 more\none: Tuple 3; Return", "a", "{a, {more, b}, error}", 0},
		// One that was dropped is there no more, the one ahead of it is.
		{"Try one; Push b; Guard two; Ended; Jump two\ntwo: Fail 1 oops\none: Tuple 3; Return", "a", "{a, {oops, b}, error}", 0}, {"Guard on; Ended; Jump on\non: Fail 1 oops", "a", "error {oops, a}", 0}, {"Guard one; Guard two; Ended; Ended; Fail 1 oops\none: Fail 0 one\ntwo: Fail 0 two", "a", "error {oops, a}", 0},
		// What was changed below the handler's height stays so.
		{"Push []; Try on; Push 1; Add 1; Fail 0 oops\non: Tuple 4; Return", "a", "{a, [1], oops, error}", 0}, {"Row; Guard on; Row; Push 7; Put 8 int; Join 1; Fail 0 oops\non: Tuple 3; Return", "a", "{a, <<7>>, 8}", 0}, {"Guard on; Push 1; Store 2; Fail 0 oops\non: Load 2; Tuple 2; Return", "a", "{a, 1}", 0},
		// An error of an instruction, ahead of all that it took.
		{"Try on; Push 1; Push b; Operate +; Tuple 1; Fail 1 no\non: Tuple 3; Return", "a", "{a, badarith, error}", 0}, {"Push b; Try on; Push 1; Push 2; Push 3; Cons 2; Fail 1 no\non: Tuple 4; Return", "a", "{a, b, badarg, error}", 0}, {"Try on; Push 1; Push 2; Next out; Fail 1 no\nout: Fail 0 no\non: Tuple 3; Return", "a", "{a, bad_code, error}", 1},
		// The steps that were counted stay counted; that the fuel is out nobody takes.
		{"Guard on; Step 7; Fail 0 oops\non: Return", "a", "a", 7}, {"Try on; Step 100000; Fail 0 oops\non: Tuple 3; Return", "a", "out of fuel", 2999}, {"Guard on; Step 100000; Fail 0 oops\non: Return", "a", "out of fuel", 2999},
	}...)
	// What fails within a handler cuts no deeper than that: B is one of the heights above.
	eachFits(t, "Try on; Push b; Pick 0; Is no 3 c; Fail 1 is\nno: Fail 1 isnt\non: Tuple 3; Return", "c -> {c, {is, b}, error}", "d -> {d, {isnt, d}, error}")
	eachFits(t, "Try on; Push b; Pick 0; Is no 2 c; Fail 1 is\nno: Fail 1 isnt\non: Tuple 3; Return", "c -> {c, {is, b}, error}", "d -> {d, {isnt, b}, error}")
	eachFits(t, "Try on; Push b; Pick 0; Is no 1 c; Fail 1 is\nno: Fail 0 isnt\non: Tuple 3; Return", "c -> {c, {is, b}, error}", "d -> {d, isnt, error}")
	// As many handlers as there may be, in one frame.
	row, ends := "", ""
	for k := range 1000 {
		row = fmt.Sprintf("Guard o%d; ", k) + row
		ends += fmt.Sprintf("o%d: Fail 0 more\n", k)
	}
	runs(t, "f/0 0: "+row+"Fail 0 oops\n"+ends, "error more", 1)
	runs(t, "f/0 0: "+row+"Fail 0 oops\n"+strings.ReplaceAll(ends, "o999: Fail 0 more", "o999: Push yes; Return"), "yes", 1)
	runs(t, "f/0 0: "+row+strings.Repeat("Ended; ", 1000)+"Fail 0 oops\n"+ends, "error oops", 1)
	runs(t, "f/0 0: "+row+strings.Repeat("Ended; ", 999)+"Fail 0 oops\n"+strings.ReplaceAll(ends, "o999: Fail 0 more", "o999: Push yes; Return"), "yes", 1)
}

// P8: what no handler of a frame takes goes up in the one that called it.
func TestFramesEndP8(t *testing.T) {
	deep := "f/1 0: Push b; Try on; Push c; Pick 0; Call 1; Fail 0 no\non: Tuple 4; Return\ng/1 0: Push 1; Push 2; Call 2; Tuple 4; Fail 1 no\nh/0 0: Push 3; Push x; Push throw; Raise"
	runs(t, deep, "{a, b, x, throw}", 3, atom("a"))
	runs(t, strings.ReplaceAll(deep, "throw", "exit"), "{a, b, x, exit}", 3, atom("a"))
	runs(t, strings.ReplaceAll(deep, "throw", "error"), "{a, b, x, error}", 3, atom("a"))
	runs(t, "f/0 0: Push 1; Call 1; Tuple 2; Return\ng/0 0: Push 2; Call 2; Tuple 2; Return\nh/0 0: Fail 0 oops", "error oops", 3)
	// A handler that was dropped, or that ended with its frame, takes nothing.
	runs(t, "f/0 0: Try on; Call 1; Ended; Fail 1 oops\non: Tuple 2; Return\ng/0 0: Guard on2; Push 1; Fail 0 no\non2: Push 5; Return", "error {oops, 5}", 2)
	runs(t, "f/0 0: Call 1; Call 2; Tuple 2; Return\ng/0 0: Guard on; Push 1; Ended; Return\non: Push 5; Return\nh/0 0: Fail 0 oops", "error oops", 3)
	// The latest handler is the innermost frame's.
	runs(t, "f/0 0: Try on; Call 1; Ended; Return\non: Tuple 2; Return\ng/0 0: Try on2; Call 2; Fail 0 no\non2: Tuple 2; Return\nh/0 0: Fail 0 oops", "{oops, error}", 3)
	runs(t, "f/0 0: Try on; Call 1; Ended; Return\non: Tuple 2; Return\ng/0 0: Try on2; Call 2; Fail 0 no\non2: Tuple 2; Fail 1 again\nh/0 0: Fail 0 oops", "{{again, {oops, error}}, error}", 3)
	// Once a frame is left its steps stay counted, and the next call begins anew.
	runs(t, "f/0 1: Guard on; Step 5; Call 1; Fail 0 no\non: Push []; Call 2; Add 0; Call 2; Add 0; Return\ng/0 0: Step 3; Fail 0 oops\nh/0 1: Load 0; Push 1; Store 0; Return", "[0, 0]", 12)
	// Many frames end at once.
	many := codeOf("f/1 0: Try on; Pick 0; Call 1; Fail 0 no\non: Tuple 3; Return\ng/1 1: Dup; Is no 1 0; Fail 0 bottom\nno: Push 1; Operate -; Call 1; Return")
	runsCode(t, many, "{900, bottom, error}", 902, num(900))
	if a, wrong := impl.Run(many, "f", []impl.Term{num(99998)}, impl.MaxFuel); wrong != impl.OK || shown(a) != "{99998, bottom, error}" || a.Used != impl.MaxFuel {
		t.Error(shown(a), a.Used, wrong)
	}
	if a, wrong := impl.Run(many, "f", []impl.Term{num(99999)}, impl.MaxFuel); wrong != impl.OK || !sameAnswer(a, impl.Answer{Class: impl.AnFuel, Used: impl.MaxFuel}) {
		t.Error(shown(a), a.Used, wrong)
	}
	// Frames of many slots take no more room than they use.
	wide := codeOf("f/0 2000: Push 1; Store 1999; Call 0; Load 1999; Tuple 2; Return")
	if a, wrong := impl.Run(wide, "f", nil, impl.MaxFuel); wrong != impl.OK || !sameAnswer(a, impl.Answer{Class: impl.AnFuel, Used: impl.MaxFuel}) {
		t.Error(shown(a), a.Used, wrong)
	}
}

// tooMuch asks that instructions make a term of their argument when there is room for it, and are error system_limit when there is none.
func tooMuch(t *testing.T, body string, most impl.Term, more impl.Term) {
	t.Helper()
	code := codeOf("f/1 1: " + body)
	if a := ran(t, code, most); a.Class == impl.AnError && shown(a) == "error system_limit" || a.Used != 1 {
		t.Error(body, "is too much", a.Class, a.Used)
	}
	if a := ran(t, code, more); shown(a) != "error system_limit" || a.Used != 1 {
		t.Error(body, "is not too much", a.Class, a.Used)
	}
}

// P8: terms of 2000 terms, and 100 deep, and one more; Ints at their bounds.
func TestTermsThatAreTooLargeP8(t *testing.T) {
	for body, beside := range map[string]int{
		"Tuple 1; Return": 1, "List 1; Return": 1, "Push []; Cons 1; Return": 1, "Push a; Pick 0; Map 0 1; Store 0; Drop; Load 0; Return": 2, "Push []; Pick 0; Add 1; Store 0; Drop; Load 0; Return": 1,
		"Push 1; Pick 0; Cons 1; Store 0; Drop; Load 0; Return": 1, "Push [1]; Pick 0; Operate ++; Store 0; Drop; Load 0; Return": 1, "Push 1; Add 0; Return": 1, "Push 1; Push 2; Tuple 3; Return": 3, "Fail 1 oops": 2,
	} {
		tooMuch(t, body, many(num(1), 1999-beside), many(num(1), 2000-beside))
		if strings.Contains(body, "Cons 1; S") || strings.Contains(body, "++") || strings.HasPrefix(body, "Push 1; Add") {
			continue // the list itself grows, and what is in it is no deeper
		}
		tooMuch(t, body, nest(num(1), 98), nest(num(1), 99))
	}
	// What is told of a term that is too large already.
	for _, body := range []string{"Map 1 0; Return", "Also on orelse; Push 1\non: Return", "Filter on; Fail 0 no\non: Fail 0 no", "Gen 1; Fail 0 no", "Apply 0; Return"} {
		tooMuch(t, body, many(num(1), 1997), many(num(1), 1998))
		tooMuch(t, body, nest(num(1), 98), nest(num(1), 99))
	}
	tooMuch(t, "Gen 0; Fail 0 no", tuple(many(num(1), 1996)), tuple(many(num(1), 1997)))
	// Funs with what they hold.
	for _, most := range []struct{ most, more impl.Term }{{many(num(1), 1998), many(num(1), 1999)}, {nest(num(1), 98), nest(num(1), 99)}} {
		code := codeOf("f/1 0: Fun 1; Return\nfun/0 1 1: Load 0; Return")
		if a := ran(t, code, most.most); a.Class != impl.AnValue || !same(a.V, fun(1, most.most)) {
			t.Error(a.Class)
		}
		if a := ran(t, code, most.more); shown(a) != "error system_limit" {
			t.Error(a.Class)
		}
	}
	for _, x := range []struct{ body, x, want string }{
		{"Push 1; Operate +; Return", "999999999999999", "1000000000000000"}, {"Push 1; Operate +; Return", "1000000000000000", "error system_limit"}, {"Push 1; Operate -; Return", "-999999999999999", "-1000000000000000"}, {"Push 1; Operate -; Return", "-1000000000000000", "error system_limit"},
		{"Push 2; Operate *; Return", "500000000000000", "1000000000000000"}, {"Push 2; Operate *; Return", "500000000000001", "error system_limit"}, {"Push 1000000000000000; Operate *; Return", "-1000000000000000", "error system_limit"}, {"Unary -; Return", "1000000000000000", "-1000000000000000"},
		{"Push 1000000000000000; Operate +; Return", "1", "error system_limit"}, {"Try on; Push 1000000000000000; Pick 0; Operate +; Fail 1 no\non: Tuple 3; Return", "1", "{1, system_limit, error}"},
	} {
		eachDoes(t, doing{x.body, x.x, x.want, 0})
	}
	// A list that is too large to be added to stays as it was.
	runs(t, "f/1 0: Try on; Push 1; Add 0; Fail 0 no\non: Cut 1; Builtin 1 length; Return", "1999", 2, many(num(1), 1999))
	// An element that is right alone, but not within.
	eachFits(t, fmt.Sprintf("Push []; Push %s; Add 1; Fail 0 no", shownTerm(nest(num(1), 99))), "a -> error system_limit")
}

// P8: what processes alone may do is error not_pure, when its step was counted, if it has one, and what it takes was taken.
func TestProcessesAreNotPureP8(t *testing.T) {
	eachDoes(t, []doing{
		{"Push b; Send; Return", "a", "error not_pure", 0}, {"Push infinity; Mark; Return", "a", "error not_pure", 0}, {"Letter late; Fail 0 no\nlate: Return", "a", "error not_pure", 0}, {"Taken; Return", "a", "error not_pure", 0},
		{"Push b; Try on; Push 1; Push 2; Send; Fail 1 no\non: Tuple 4; Return", "a", "{a, b, not_pure, error}", 0}, {"Try on; Push 1; Mark; Fail 0 no\non: Tuple 3; Return", "a", "{a, not_pure, error}", 0}, {"Try on; Letter late; Fail 1 no\nlate: Fail 0 no\non: Tuple 3; Return", "a", "{a, not_pure, error}", 0}, {"Guard on; Taken; Fail 0 no\non: Return", "a", "a", 0},
		{"Step 3; Letter late; Fail 0 no\nlate: Return", "a", "error not_pure", 3},
		{"Cut 0; Builtin 0 self; Return", "a", "error not_pure", 1}, {"Builtin 1 spawn; Return", "a", "error not_pure", 1}, {"Dup; Dup; Builtin 3 send_after; Return", "a", "error not_pure", 1}, {"Dup; Builtin 2 tab_new; Return", "a", "error not_pure", 1},
	}...)
}
