package tests

import (
	"strings"
	"testing"

	"loop.example/g00019/impl"
)

// P8: what the instructions do that move values, and go on elsewhere.
func TestValuesAreMovedP8(t *testing.T) {
	eachDoes(t, []doing{
		{"Return", "7", "7", 0},
		{"Step 1; Return", "7", "7", 1}, {"Step 5; Step 7; Return", "7", "7", 12}, {"Step 2998; Return", "7", "7", 2998}, {"Step 3000; Return", "7", "out of fuel", 2999}, {"Step 100000; Return", "7", "out of fuel", 2999},
		{"Cut 0; Push {a, [1]}; Return", "7", "{a, [1]}", 0}, {"Push a; Push b; Tuple 3; Return", "7", "{7, a, b}", 0}, {"Push #f1{2}; Push #p3; Push #r4; Push <<5>>; Push #{6 => 7}; Tuple 6; Return", "[]", "{[], #f1{2}, #p3, #r4, <<5>>, #{6 => 7}}", 0},
		{"Load 0; Load 1; Load 2; Tuple 4; Return", "7", "{7, 0, 0, 0}", 0}, {"Store 1; Load 1; Load 0; Load 1; Load 2; Tuple 4; Return", "7", "{7, 0, 7, 0}", 0}, {"Store 2; Push a; Store 2; Push b; Store 0; Load 0; Load 2; Tuple 2; Return", "7", "{b, a}", 0},
		{"Push b; Pick 0; Pick 1; Pick 2; Tuple 5; Return", "a", "{a, b, a, b, a}", 0}, {"Pick 0; Tuple 2; Return", "a", "{a, a}", 0},
		{"Dup; Tuple 2; Return", "a", "{a, a}", 0}, {"Push b; Dup; Tuple 3; Return", "a", "{a, b, b}", 0}, {"Push b; Drop; Return", "a", "a", 0}, {"Drop; Push b; Return", "a", "b", 0},
		{"Push b; Push c; Cut 1; Return", "a", "a", 0}, {"Push b; Push c; Cut 3; Tuple 3; Return", "a", "{a, b, c}", 0}, {"Push b; Push c; Cut 2; Push d; Tuple 3; Return", "a", "{a, b, d}", 0}, {"Cut 0; Push 1; Return", "a", "1", 0}, {"Push b; Cut 0; Push 1; Return", "a", "1", 0},
		{"Jump on; Fail 0 no\non: Return", "a", "a", 0}, {"Push 1; Jump on; Fail 0 no; Fail 0 no\non: Tuple 2; Return", "a", "{a, 1}", 0},
	}...)
	// The first argument lies at the bottom.
	runs(t, "f/3 0: Pick 0; Pick 1; Pick 2; Tuple 6; Return", "{1, 2, 3, 1, 2, 3}", 1, num(1), num(2), num(3))
	runs(t, "f/0 0: Push 1; Return", "1", 1)
	runs(t, "f/2 0: Operate -; Return", "5", 1, num(7), num(2))
	// Slots and values stand in frames of their own.
	runs(t, "f/0 2: Push a; Store 1; Push b; Call 1; Load 1; Load 0; Tuple 4; Return\ng/0 2: Load 1; Push c; Store 1; Load 1; Tuple 2; Return", "{b, {0, c}, a, 0}", 2)
	runs(t, "f/0 2: Call 1; Call 1; Tuple 2; Return\ng/0 2: Load 1; Push c; Store 1; Load 1; Tuple 2; Return", "{{0, c}, {0, c}}", 3)
	runs(t, "f/0 2000: Push c; Store 1999; Load 1999; Load 1998; Tuple 2; Return", "{c, 0}", 1)
	// As many values as there may be.
	for last, want := range map[string]string{"Pick 9998; Cut 1; Return": "1", "Pick 0; Tuple 2; Store 0; Cut 0; Load 0; Return": "{1, 1}"} {
		code := codeOf("f/0 1: " + strings.Repeat("Push 1; ", 9999) + last)
		if a, wrong := impl.Run(code, "f", nil, 1); wrong != impl.OK || shown(a) != want || a.Used != 1 {
			t.Error(shown(a), a.Used, wrong)
		}
	}
}

// P8: what takes or leaves the top and fails: the heights to which it cuts, with what it took there again.
func TestValuesAreHeldAgainstPatternsP8(t *testing.T) {
	eachFits(t, "Dup; Is no 2 a; Return\nno: Tuple 2; Return", "a -> a", "b -> {b, b}", "{a} -> {{a}, {a}}")
	eachFits(t, "Dup; Is no 1 a; Tuple 1; Return\nno: Return", "a -> {a}", "b -> b")
	eachFits(t, "Dup; Is no 0 a; Return\nno: Push no; Return", "a -> a", "b -> no")
	eachFits(t, "Is no 1 a; Push yes; Return\nno: Return", "a -> yes", "b -> b")
	eachFits(t, "Is no 0 {1, [<<2>>], #{}}; Push yes; Return\nno: Push no; Return", "{1, [<<2>>], #{}} -> yes", "{1, [<<2>>], []} -> no", "{1, [<<2>>]} -> no", "0 -> no")
	eachFits(t, "Is no 0 -5; Push yes; Return\nno: Push no; Return", "-5 -> yes", "5 -> no", "#r5 -> no", "#p5 -> no", "#f5{} -> no")
	eachFits(t, "Push {b}; Store 1; Is no 0 {b}; Push yes; Return\nno: Push no; Return", "{b} -> yes", "b -> no")
	eachFits(t, "Push {b}; Store 1; Dup; Same no 2 1; Return\nno: Tuple 2; Return", "{b} -> {b}", "{a} -> {{a}, {a}}", "0 -> {0, 0}")
	eachFits(t, "Dup; Same no 0 1; Return\nno: Push no; Return", "0 -> 0", "{b} -> no")
	eachFits(t, "Push b; Pick 0; Untuple no 3 2; Tuple 4; Return\nno: Tuple 3; Return", "{1, 2} -> {{1, 2}, b, 2, 1}", "{1} -> {{1}, b, {1}}", "{1, 2, 3} -> {{1, 2, 3}, b, {1, 2, 3}}", "[1, 2] -> {[1, 2], b, [1, 2]}", "#{1 => 2} -> {#{1 => 2}, b, #{1 => 2}}", "#f1{1, 2} -> {#f1{1, 2}, b, #f1{1, 2}}")
	eachFits(t, "Untuple no 1 0; Push yes; Return\nno: Return", "{} -> yes", "{1} -> {1}", "[] -> []", "<<>> -> <<>>")
	eachFits(t, "Push b; Pick 0; Unlist no 2 2; Tuple 4; Return\nno: Tuple 2; Return", "[1, 2] -> {[1, 2], b, 2, 1}", "[1] -> {[1], b}", "[1, 2, 3] -> {[1, 2, 3], b}", "{1, 2} -> {{1, 2}, b}", "<<1, 2>> -> {<<1, 2>>, b}")
	eachFits(t, "Unlist no 0 0; Push yes; Return\nno: Push no; Return", "[] -> yes", "[1] -> no", "{} -> no")
	eachFits(t, "Push b; Pick 0; Untail no 3 2; Tuple 5; Return\nno: Tuple 3; Return", "[1, 2] -> {[1, 2], b, [], 2, 1}", "[1, 2, 3, 4] -> {[1, 2, 3, 4], b, [3, 4], 2, 1}", "[1] -> {[1], b, [1]}", "[] -> {[], b, []}", "{1, 2, 3} -> {{1, 2, 3}, b, {1, 2, 3}}")
	eachFits(t, "Untail no 0 0; Tuple 1; Return\nno: Push no; Return", "[] -> {[]}", "[1] -> {[1]}", "{} -> no", "a -> no")
	eachFits(t, "Push b; Pick 0; IsMap no 2; Tuple 3; Return\nno: Tuple 2; Return", "#{} -> {#{}, b, #{}}", "#{1 => 2} -> {#{1 => 2}, b, #{1 => 2}}", "[] -> {[], b}", "{} -> {{}, b}")
	eachFits(t, "Get no 1 a; Tuple 2; Return\nno: Return", "#{a => 1} -> {#{a => 1}, 1}", "#{1 => 2, a => {}, b => 3} -> {#{1 => 2, a => {}, b => 3}, {}}", "#{} -> #{}", "#{1 => a} -> #{1 => a}", "#{b => 1} -> #{b => 1}", "{a, 1} -> {a, 1}", "a -> a")
	eachFits(t, "Push b; Pick 0; Get no 0 {1}; Tuple 4; Return\nno: Push no; Return", "#{{1} => 2} -> {#{{1} => 2}, b, #{{1} => 2}, 2}", "#{1 => 2} -> no")
	eachFits(t, "Push b; Pick 0; IsBin no 3; Tuple 4; Return\nno: Tuple 3; Return", "<<1>> -> {<<1>>, b, <<1>>, 0}", "<<>> -> {<<>>, b, <<>>, 0}", "[] -> {[], b, []}", "a -> {a, b, a}")
}

// P8: what makes terms of others.
func TestTermsAreMadeP8(t *testing.T) {
	eachFits(t, "Push a; Push b; Tuple 2; Tuple 2; Return", "1 -> {1, {a, b}}")
	eachFits(t, "Tuple 0; Tuple 2; Return", "1 -> {1, {}}")
	eachFits(t, "Push a; Push b; List 3; Return", "1 -> [1, a, b]")
	eachFits(t, "List 0; List 2; Return", "1 -> [1, []]")
	eachFits(t, "Push a; Push b; Pick 0; Cons 2; Tuple 2; Return", "[] -> {[], [a, b]}", "[1, 2] -> {[1, 2], [a, b, 1, 2]}", "1 -> error badarg", "{} -> error badarg", "<<>> -> error badarg")
	eachFits(t, "Cons 0; Return", "[1] -> [1]", "a -> error badarg")
	eachFits(t, "Push 1; Push a; Push 2; Map 0 2; Return", "x -> #{a => 2, x => 1}", "a -> #{a => 2}", "b -> #{a => 2, b => 1}")
	eachFits(t, "Map 0 0; Tuple 2; Return", "1 -> {1, #{}}")
	eachFits(t, "Push a; Push 1; Push b; Push 2; Push b; Push 3; Pick 0; Map 1 3; Tuple 2; Return", "#{} -> {#{}, #{a => 1, b => 3}}", "#{b => 5, c => 6} -> {#{b => 5, c => 6}, #{a => 1, b => 3, c => 6}}", "[] -> error {badmap, []}", "{} -> error {badmap, {}}", "a -> error {badmap, a}")
	eachFits(t, "Map 1 0; Return", "#{1 => 2} -> #{1 => 2}", "1 -> error {badmap, 1}")
	eachFits(t, "Push 1; Push 2; Add 0; Add 0; Return", "[] -> [2, 1]", "[a] -> [a, 2, 1]", "{} -> error bad_code", "<<>> -> error bad_code", "0 -> error bad_code")
	eachFits(t, "Push []; Push 1; Add 1; Push 2; Add 1; Tuple 2; Return", "a -> {a, [1, 2]}")
	// A list that is added to is the same one nowhere else.
	eachFits(t, "Pick 0; Pick 0; Push 1; Add 0; Push 2; Add 1; Push 3; Add 0; Push 4; Add 2; Tuple 3; Return", "[] -> {[1, 3], [2], [4]}", "[a, b, c] -> {[a, b, c, 1, 3], [a, b, c, 2], [a, b, c, 4]}")
	eachFits(t, "Push 1; Add 0; Pick 0; Push 2; Add 0; Push 3; Add 1; Tuple 2; Return", "[a, b] -> {[a, b, 1, 2], [a, b, 1, 3]}")
	eachFits(t, "Dup; Untail no 2 1; Drop; Push 1; Add 1; Tuple 2; Return\nno: Tuple 2; Return", "[a, b, c] -> {[a, b, c], [b, c, 1]}", "[a] -> {[a], [1]}", "[] -> {[], []}")
	for op, want := range map[string]string{"+": "11", "-": "5", "*": "24", "div": "2", "rem": "2", "==": "false", "/=": "true", "=:=": "false", "=/=": "true", "<": "false", "=<": "false", ">": "true", ">=": "true", "and": "error {badarg, 8}", "or": "error {badarg, 8}", "++": "error badarg"} {
		eachFits(t, "Push 3; Operate "+op+"; Return", "8 -> "+want)
	}
	eachFits(t, "Push false; Operate and; Return", "true -> false", "false -> false", "1 -> error {badarg, 1}")
	eachFits(t, "Push false; Operate or; Return", "true -> true", "false -> false", "{} -> error {badarg, {}}")
	eachFits(t, "Push 1; Operate or; Return", "true -> error {badarg, 1}", "2 -> error {badarg, 2}")
	eachFits(t, "Push [1]; Operate ++; Return", "[2] -> [2, 1]", "a -> error badarg")
	eachFits(t, "Push 0; Operate div; Return", "2 -> error badarith", "a -> error badarith")
	eachFits(t, "Unary -; Return", "2 -> -2", "-2 -> 2", "0 -> 0", "a -> error badarith", "[] -> error badarith")
	eachFits(t, "Unary not; Return", "true -> false", "false -> true", "a -> error badarg", "1 -> error badarg")
}

// P8: what asks a value for its truth, or what to go through.
func TestValuesDecideP8(t *testing.T) {
	eachFits(t, "Also on andalso; Push b; Tuple 1\non: Tuple 1; Return", "true -> {{b}}", "false -> {false}", "1 -> error {badarg, 1}", "{} -> error {badarg, {}}")
	eachFits(t, "Also on orelse; Push b; Tuple 1\non: Tuple 1; Return", "false -> {{b}}", "true -> {true}", "no -> error {badarg, no}")
	eachFits(t, "Push 5; Pick 0; Filter no; Push 6; Tuple 3; Return\nno: Tuple 2; Return", "true -> {true, 5, 6}", "false -> {false, 5}", "1 -> error {bad_filter, 1}", "[true] -> error {bad_filter, [true]}")
	eachFits(t, "True; Push yes; Return", "true -> yes", "false -> error not_true", "1 -> error not_true", "{true} -> error not_true", "[116, 114, 117, 101] -> error not_true")
	eachFits(t, "Gen 0; Tuple 2; Return", "[] -> {[], 0}", "[a] -> {[a], 0}", "<<1>> -> error {bad_generator, <<1>>}", "{} -> error {bad_generator, {}}", "0 -> error {bad_generator, 0}")
	eachFits(t, "Gen 1; Tuple 2; Return", "<<>> -> {<<>>, 0}", "<<1>> -> {<<1>>, 0}", "[1] -> error {bad_generator, [1]}", "a -> error {bad_generator, a}")
	eachFits(t, "Push b; Fail 0 oops; Return", "1 -> error oops")
	eachFits(t, "Push b; Fail 1 oops; Return", "1 -> error {oops, b}")
	eachFits(t, "Fail 1 oops; Return", "{} -> error {oops, {}}")
}

// P8: a step is counted each time that an element is asked for, also when there is none more.
func TestElementsAreGoneThroughP8(t *testing.T) {
	each := "Push []; Pick 0; Gen 0\nnext: Next out; Tuple 1; Add 1; Jump next\nout: Tuple 2; Return"
	eachDoes(t, doing{each, "[]", "{[], []}", 1}, doing{each, "[a]", "{[a], [{a}]}", 2}, doing{each, "[a, b, c]", "{[a, b, c], [{a}, {b}, {c}]}", 4}, doing{each, "{}", "error {bad_generator, {}}", 0})
	// The mark may stand anywhere in the list at first.
	for mark, want := range map[string]string{"0": "[a, b]", "1": "[b]", "2": "[]", "-1": "error bad_code", "3": "error bad_code", "a": "error bad_code", "[]": "error bad_code", "<<>>": "error bad_code"} {
		steps := map[string]int{"0": 3, "1": 2}[mark]
		eachDoes(t, doing{"Push []; Pick 0; Push " + mark + "\nnext: Next out; Add 1; Jump next\nout: Pick 1; Cut 3; Store 0; Cut 0; Load 0; Return", "[a, b]", want, max(1, steps)})
	}
	step := "Push 1; Next out; Tuple 3; Return\nout: Push at_end; Return"
	for x, want := range map[string]string{"[a, b]": "{[a, b], 2, b}", "[a]": "at_end", "[]": "error bad_code", "{a, b}": "error bad_code", "<<1, 2>>": "error bad_code", "a": "error bad_code", "#{1 => 2}": "error bad_code"} {
		eachDoes(t, doing{step, x, want, 1})
	}
	more := "Push 8; More out; Tuple 4; Return\nout: Push at_end; Return"
	for x, want := range map[string]string{"<<1, 2>>": "{<<1, 2>>, 8, <<1, 2>>, 8}", "<<1>>": "at_end", "<<>>": "error bad_code", "[1, 2]": "error bad_code", "8": "error bad_code"} {
		eachDoes(t, doing{more, x, want, 1})
	}
	for mark, want := range map[string]string{"0": "{<<1, 2>>, 0, <<1, 2>>, 0}", "15": "{<<1, 2>>, 15, <<1, 2>>, 15}", "16": "at_end", "17": "error bad_code", "-1": "error bad_code", "a": "error bad_code", "<<>>": "error bad_code"} {
		eachDoes(t, doing{"Push " + mark + "; More out; Tuple 4; Return\nout: Push at_end; Return", "<<1, 2>>", want, 1})
	}
	// At the end both are taken, and what lies below stays.
	eachDoes(t, doing{"Push b; Push [c]; Push 1; Next out; Fail 0 no\nout: Tuple 2; Return", "a", "{a, b}", 1}, doing{"Push b; Push <<1>>; Push 8; More out; Fail 0 no\nout: Tuple 2; Return", "a", "{a, b}", 1})
	// bad_code is looked for behind the step.
	for _, op := range []string{"Next", "More"} {
		code := codeOf("f/0 0: Step 4; Push 1; Push 1; " + op + " out; Fail 0 no\nout: Fail 0 no")
		runsCode(t, code, "error bad_code", 6)
		if a, _ := impl.Run(code, "f", nil, 5); !sameAnswer(a, impl.Answer{Class: impl.AnFuel, Used: 5}) {
			t.Error(op, shown(a), a.Used)
		}
	}
}

// P8: a list that is added to, while others have it, and with others in its place.
func TestListsGrowP8(t *testing.T) {
	// Who has it as it was keeps it so, whoever is added to then.
	eachFits(t, "Push 1; Add 0; Pick 0; Push 2; Add 0; Pick 0; Push 3; Add 0; Push 4; Add 1; Push 5; Add 2; Push 6; Add 0; Tuple 3; Return", "[] -> {[1, 2, 3, 6], [1, 4], [1, 2, 5]}", "[a] -> {[a, 1, 2, 3, 6], [a, 1, 4], [a, 1, 2, 5]}", "[a, b, c] -> {[a, b, c, 1, 2, 3, 6], [a, b, c, 1, 4], [a, b, c, 1, 2, 5]}")
	eachFits(t, "Push 1; Add 0; Push 2; Add 0; Push 3; Add 0; Dup; Store 0; Push 4; Add 0; Load 0; Push 5; Add 1; Push 6; Add 0; Load 0; Tuple 3; Return", "[] -> {[1, 2, 3, 4, 6], [1, 2, 3, 5], [1, 2, 3]}")
	// Another list lies where it lay: its room is not the first one's.
	again := "Push 1; Add 0; Push 2; Add 0; Push 3; Add 0; Dup; Store 0; Push 4; Add 0; Store 1; "
	eachFits(t, again+"Load 0; Push 5; Add 0; Load 1; Load 0; Tuple 3; Return", "[] -> {[1, 2, 3, 5], [1, 2, 3, 4], [1, 2, 3]}")
	eachFits(t, again+"Load 0; Cut 1; Push 5; Add 0; Load 1; Load 0; Tuple 3; Return", "[] -> {[1, 2, 3, 5], [1, 2, 3, 4], [1, 2, 3]}")
	eachFits(t, again+"Load 0; Untail no 1 1; Drop; Push 5; Add 0; Load 1; Load 0; Tuple 3; Return\nno: Return", "[] -> {[2, 3, 5], [1, 2, 3, 4], [1, 2, 3]}")
	eachFits(t, "Push 1; Add 0; Push 2; Add 0; Push 3; Add 0; Dup; Store 0; Push 4; Add 0; Dup; Store 1; Cut 0; Load 0; Push 5; Add 0; Load 1; Tuple 2; Return", "[] -> {[1, 2, 3, 5], [1, 2, 3, 4]}")
	eachFits(t, "Dup; Try on; Push 1; Add 0; Push 2; Add 0; Push 3; Add 0; Push 4; Add 1; Fail 0 oops\non: Drop; Drop; Push 5; Add 0; Push 6; Add 1; Tuple 2; Return", "[] -> {[1, 2, 3, 5], [4, 6]}")
	// One that is handed to a block.
	runs(t, "f/1 0: Push 1; Add 0; Push 2; Add 0; Push 3; Add 0; Pick 0; Call 1; Push 4; Add 0; Tuple 2; Return\ng/1 0: Push 7; Add 0; Push 8; Add 0; Return", "{[1, 2, 3, 4], [1, 2, 3, 7, 8]}", 2, list())
	// Two that grow by turns, one of them in the other.
	runs(t, "f/1 0: Push []; Pick 0; Push 0\nnext: Next out; Push []; Pick 4; Add 5; Pick 4; Add 1; Pick 4; Add 5; Add 1; Drop; Jump next\nout: Tuple 2; Return", "{[1, 2], [1, [1, 1], 2, [2, 2]]}", 4, list(num(1), num(2)))
	runs(t, "f/1 0: Push []; Pick 0; Push 0\nnext: Next out; Add 1; Pick 1; Add 1; Jump next\nout: Tuple 2; Return", "{[1, 2], [1, [1], 2, [1, [1], 2]]}", 4, list(num(1), num(2)))
	// It may be as large as any term, and what was counted ends with it.
	most := many(num(1), 1997)
	for body, want := range map[string]string{
		"Push 1; Add 0; Push 1; Add 0; Builtin 1 length; Return": "1999", "Push 1; Add 0; Push 1; Add 0; Push 1; Add 0; Builtin 1 length; Return": "error system_limit", "Push {}; Add 0; Push [1]; Add 0; Builtin 1 length; Return": "error system_limit", "Push [1]; Add 0; Builtin 1 length; Return": "1998",
		"Push 1; Add 0; Push 1; Add 0; Push []; Push {1, 2}; Add 1; Push 3; Add 1; Store 0; Drop; Load 0; Return": "[{1, 2}, 3]", "Push 1; Add 0; Push 1; Add 0; Cut 0; Push []; Push {1, 2}; Add 0; Push 3; Add 0; Return": "[{1, 2}, 3]", "Push []; Push 1; Add 1; Drop; Dup; Push 1; Add 1; Push 1; Add 1; Push 1; Add 1; Drop; Return": "error system_limit",
		"Try on; Push 1; Add 0; Push {1, 2}; Add 0; Fail 0 no\non: Cut 1; Push 1; Add 0; Builtin 1 length; Return": "1999",
	} {
		if a := ran(t, codeOf("f/1 1: "+body), most); shown(a) != want {
			t.Error(body, a.Class, len(a.V.Kids))
		}
	}
	eachDoes(t, doing{"Push []; Push " + shownTerm(nest(num(1), 98)) + "; Add 1; Push 1; Add 1; Builtin 1 length; Tuple 2; Return", "a", "{a, 2}", 1}, doing{"Push []; Push 1; Add 1; Push " + shownTerm(nest(num(1), 99)) + "; Add 1; Builtin 1 length; Tuple 2; Return", "a", "error system_limit", 0})
}
