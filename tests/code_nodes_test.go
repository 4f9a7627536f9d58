package tests

import (
	"slices"
	"strings"
	"testing"

	"loop.example/g00019/impl"
)

// becomes asks for the code of the forms of a module m; the Nodes and the exports are looked up in the tree.
func becomes(t *testing.T, forms string, text string) {
	t.Helper()
	tree := meant(t, forms)
	code := compiled(t, tree)
	want := codeOf(text)
	want.Refers = code.Refers // asked for elsewhere
	named, nameless := placesOf(tree, impl.NdFunc), placesOf(tree, impl.NdFun)
	for k, node := range slices.Concat(named, nameless) {
		if k < len(want.Fns) {
			want.Fns[k].Node = node
			want.Fns[k].Export = want.Fns[k].Name != "" && strings.Contains(forms, "export "+want.Fns[k].Name)
		}
	}
	if !sameCode(code, want) {
		t.Errorf("%s\nbecomes, at %s\n%s", forms, unlike(code, want), listing(code))
	}
}

func placesOf(tree []impl.Node, kind int) []int {
	var places []int
	for i, n := range tree {
		if n.Kind == kind {
			places = append(places, i)
		}
	}
	return places
}

// worth asks for the instructions of an expression in which X is an argument; other blocks stand behind them.
func worth(t *testing.T, slots string, e string, text string, others ...string) {
	t.Helper()
	head := "f/1 " + slots + ": Pick 0; Store 0; Cut 0;"
	becomes(t, "f(X) -> "+e+".", head+text+"; Return; Fail 0 function_clause\n"+strings.Join(others, "\n"))
}

func TestCodeOfLiteralsAndVariablesP7(t *testing.T) {
	worth(t, "1", `7`, "Step 1; Push 7")
	worth(t, "1", `a`, "Step 1; Push a")
	worth(t, "1", `"ab"`, "Step 1; Push [97, 98]")
	worth(t, "1", `""`, "Step 1; Push []")
	worth(t, "1", `X`, "Step 1; Load 0")
	worth(t, "1", `fun f/1`, "Step 1; Push #f2{}")
	worth(t, "1", `{1, fun hd/1}`, "Step 1; Step 1; Push 1; Step 1; Push #f3{}; Tuple 2")
	worth(t, "1", `1, X, a`, "Step 1; Push 1; Drop; Step 1; Load 0; Drop; Step 1; Push a")
}

func TestCodeOfWhatKidsMakeP7(t *testing.T) {
	worth(t, "1", `{}`, "Step 1; Tuple 0")
	worth(t, "1", `{X, {1}}`, "Step 1; Step 1; Load 0; Step 1; Step 1; Push 1; Tuple 1; Tuple 2")
	worth(t, "1", `[]`, "Step 1; List 0")
	worth(t, "1", `[X, 1]`, "Step 1; Step 1; Load 0; Step 1; Push 1; List 2")
	worth(t, "1", `[1 | X]`, "Step 1; Step 1; Push 1; Step 1; Load 0; Cons 1")
	worth(t, "1", `[1, 2 | X]`, "Step 1; Step 1; Push 1; Step 1; Push 2; Step 1; Load 0; Cons 2")
	worth(t, "1", `#{}`, "Step 1; Map 0 0")
	worth(t, "1", `#{a => X, 1 => 2}`, "Step 1; Step 1; Push a; Step 1; Load 0; Step 1; Push 1; Step 1; Push 2; Map 0 2")
	worth(t, "1", `#{a => 1 | X}`, "Step 1; Step 1; Push a; Step 1; Push 1; Step 1; Load 0; Map 1 1")
	worth(t, "1", `X ! 1`, "Step 1; Step 1; Load 0; Step 1; Push 1; Send")
	worth(t, "1", `-1`, "Step 1; Step 1; Push 1; Unary -")
	worth(t, "1", `not X`, "Step 1; Step 1; Load 0; Unary not")
	for _, op := range strings.Fields("or and == /= =:= =/= < =< > >= ++ + - * div rem") {
		worth(t, "1", "X "+op+" 1", "Step 1; Step 1; Load 0; Step 1; Push 1; Operate "+op)
	}
	for _, op := range strings.Fields("andalso orelse") {
		worth(t, "1", "X "+op+" 1", "Step 1; Step 1; Load 0; Also end "+op+"; Step 1; Push 1; end:")
		worth(t, "2", "{X "+op+" (Y = 1), Y = 2}", "Step 1; Step 1; Step 1; Load 0; Also end "+op+"; "+
			"Step 1; Step 1; Push 1; Dup; Store 1; Jump e1; Fail 1 badmatch; e1: end: Step 1; Step 1; Push 2; Dup; Store 1; Jump e2; Fail 1 badmatch; e2: Tuple 2")
	}
}

func TestCodeOfCallsP7(t *testing.T) {
	worth(t, "1", `f(1)`, "Step 1; Step 1; Push 1; Call 0")
	worth(t, "1", `hd(X)`, "Step 1; Step 1; Load 0; Builtin 1 hd")
	worth(t, "1", `self()`, "Step 1; Builtin 0 self")
	worth(t, "1", `map_get(1, X)`, "Step 1; Step 1; Push 1; Step 1; Load 0; Builtin 2 map_get")
	worth(t, "1", `m:hd(X)`, "Step 1; Step 1; Load 0; Remote 1 m:hd")
	worth(t, "1", `x:y()`, "Step 1; Remote 0 x:y")
	worth(t, "1", `X()`, "Step 1; Step 1; Load 0; Apply 0")
	worth(t, "1", `X(1, 2)`, "Step 1; Step 1; Load 0; Step 1; Push 1; Step 1; Push 2; Apply 2")
	// What is the module's own is ahead of 4.3's, and its number of arguments counts.
	becomes(t, "g() -> hd(1). hd(X) -> hd(). hd() -> g().", `
		g/0 0: Cut 0; Step 1; Step 1; Push 1; Call 1; Return; Fail 0 function_clause
		hd/1 1: Pick 0; Store 0; Cut 0; Step 1; Call 2; Return; Fail 0 function_clause
		hd/0 0: Cut 0; Step 1; Call 0; Return; Fail 0 function_clause`)
}

func TestCodeOfSegmentsP7(t *testing.T) {
	worth(t, "1", `<<>>`, "Step 1; Row; Whole")
	worth(t, "1", `<<X>>`, "Step 1; Row; Step 1; Load 0; Put 8 int; Whole")
	worth(t, "1", `<<1:X>>`, "Step 1; Row; Step 1; Push 1; Step 1; Load 0; Put 0 int; Whole")
	for flags, s := range map[string]string{
		"1 int": "X:4/signed", "2 int": "X:4/little", "3 int": "X:4/signed/little", "0 int": "X:4/int", "0 binary": "X:4/binary", "4 binary": "X:4/binary/bits", "16 int": `"ab":4`, "18 int": `"ab":4/little`,
	} {
		part := "Load 0"
		if strings.HasPrefix(s, `"`) {
			part = "Push [97, 98]"
		}
		worth(t, "1", "<<"+s+">>", "Step 1; Row; Step 1; "+part+"; Step 1; Push 4; Put "+flags+"; Whole")
	}
	for flags, s := range map[string]string{
		"9 int": "X/signed", "10 int": "X/little", "11 int": "X/little/signed", "8 binary": "X/binary", "12 binary": "X/binary/bits", "24 int": `"ab"`, "25 int": `"ab"/signed`, "8  binary": `"ab"/binary`,
	} {
		part := "Load 0"
		if strings.HasPrefix(s, `"`) {
			part = "Push [97, 98]"
		}
		worth(t, "1", "<<"+s+", 1>>", "Step 1; Row; Step 1; "+part+"; Put "+flags+"; Step 1; Push 1; Put 8 int; Whole")
	}
}

func TestCodeOfMatchesP7(t *testing.T) {
	worth(t, "2", `Y = X`, "Step 1; Step 1; Load 0; Dup; Store 1; Jump end; Fail 1 badmatch; end:")
	worth(t, "3", `Y = Z = X`, "Step 1; Step 1; Step 1; Load 0; Dup; Store 1; Jump e1; Fail 1 badmatch; e1: Dup; Store 2; Jump e2; Fail 1 badmatch; e2:")
	worth(t, "2", `{a, Y = X, [1 = Y]}`, "Step 1; Step 1; Push a; Step 1; Step 1; Load 0; Dup; Store 1; Jump e1; Fail 1 badmatch; e1: "+
		"Step 1; Step 1; Step 1; Load 1; Dup; Is b2 3 1; Jump e2; b2: Fail 1 badmatch; e2: List 1; Tuple 3")
	for p, text := range map[string]string{
		`1`:                                "Is bad 1 1",
		`-1`:                               "Is bad 1 -1",
		`-0`:                               "Is bad 1 0",
		`a`:                                "Is bad 1 a",
		`"b"`:                              "Is bad 1 [98]",
		`_`:                                "Drop",
		`X`:                                "Same bad 1 0",
		`{}`:                               "Untuple bad 1 0",
		`{1, _, X}`:                        "Untuple bad 1 3; Is bad 1 1; Drop; Same bad 1 0",
		`[]`:                               "Unlist bad 1 0",
		`[X, {2}]`:                         "Unlist bad 1 2; Same bad 1 0; Untuple bad 1 1; Is bad 1 2",
		`[1, 2 | X]`:                       "Untail bad 1 2; Is bad 1 1; Is bad 1 2; Same bad 1 0",
		`[1 | []]`:                         "Untail bad 1 1; Is bad 1 1; Unlist bad 1 0",
		`#{}`:                              "IsMap bad 1; Drop",
		`#{a => X, {-1, "b"} => 2}`:        "IsMap bad 1; Get bad 1 a; Same bad 1 0; Get bad 1 {-1, [98]}; Is bad 1 2; Drop",
		`{X = {a}}`:                        "Untuple bad 1 1; Dup; Same bad 1 0; Untuple bad 1 1; Is bad 1 a",
		`<<>>`:                             "IsBin bad 1; End bad 1",
		`<<X>>`:                            "IsBin bad 1; Take bad 1 8 int; Same bad 1 0; End bad 1",
		`<<1:X/signed/little, _>>`:         "IsBin bad 1; Load 0; Take bad 1 3 int; Is bad 1 1; Take bad 1 8 int; Drop; End bad 1",
		`<<"ab":2/binary, X/binary/bits>>`: "IsBin bad 1; Push 2; Take bad 1 0 binary; Is bad 1 <<97, 98>>; Take bad 1 12 binary; Same bad 1 0; End bad 1",
		`<<_:3/binary/bits, _/binary>>`:    "IsBin bad 1; Push 3; Take bad 1 4 binary; Drop; Take bad 1 8 binary; Drop; End bad 1",
	} {
		label := "bad: "
		if !strings.Contains(text, "bad") {
			label = ""
		}
		worth(t, "1", p+" = X", "Step 1; Step 1; Load 0; Dup; "+text+"; Jump end; "+label+"Fail 1 badmatch; end:")
	}
	worth(t, "4", `{Y, [Z, Y | W], Z} = X`, "Step 1; Step 1; Load 0; Dup; Untuple bad 1 3; Store 1; Untail bad 1 2; Store 2; Same bad 1 1; Store 3; Same bad 1 2; Jump end; bad: Fail 1 badmatch; end:")
	worth(t, "3", `<<N:4, Y:N>> = X`, "Step 1; Step 1; Load 0; Dup; IsBin bad 1; Push 4; Take bad 1 0 int; Store 1; Load 1; Take bad 1 0 int; Store 2; End bad 1; Jump end; bad: Fail 1 badmatch; end:")
}

func TestCodeOfFunsP7(t *testing.T) {
	worth(t, "1", `fun() -> 1 end`, "Step 1; Fun 1", "fun/0 0: Cut 0; Step 1; Push 1; Return; Fail 0 function_clause")
	worth(t, "1", `fun(X, Y) -> X end`, "Step 1; Load 0; Fun 1",
		"fun/2 2 1: Pick 0; Same n 2 0; Pick 1; Store 1; Cut 0; Step 1; Load 0; Return; n: Fail 0 function_clause")
	worth(t, "1", `fun(1) -> a; (Y) when Y -> b end`, "Step 1; Fun 1",
		"fun/1 1: Pick 0; Is n 1 1; Cut 0; Step 1; Push a; Return; n: Pick 0; Store 0; Guard o; Step 1; Load 0; True; Ended; Cut 0; Step 1; Push b; Return; o: Fail 0 function_clause")
	becomes(t, "f(B, A, C) -> fun() -> {A, B} end.", `
		f/3 3: Pick 0; Store 0; Pick 1; Store 1; Pick 2; Store 2; Cut 0; Step 1; Load 1; Load 0; Fun 1; Return; Fail 0 function_clause
		fun/0 2 2: Cut 0; Step 1; Step 1; Load 0; Step 1; Load 1; Tuple 2; Return; Fail 0 function_clause`)
	// The inner one is ahead of the outer one; what it holds the outer one holds, too.
	worth(t, "2", `Y = 1, fun(Z) -> fun() -> {Z, X} end end`, "Step 1; Step 1; Push 1; Dup; Store 1; Jump e; Fail 1 badmatch; e: Drop; Step 1; Load 0; Fun 2",
		"fun/0 2 2: Cut 0; Step 1; Step 1; Load 1; Step 1; Load 0; Tuple 2; Return; Fail 0 function_clause",
		"fun/1 2 1: Pick 0; Store 1; Cut 0; Step 1; Load 0; Load 1; Fun 1; Return; Fail 0 function_clause")
	// Behind a fun what it binds is not bound.
	worth(t, "2", `{fun() -> Y = 1 end, Y = 2}`, "Step 1; Step 1; Fun 1; Step 1; Step 1; Push 2; Dup; Store 1; Jump e; Fail 1 badmatch; e: Tuple 2",
		"fun/0 1: Cut 0; Step 1; Step 1; Push 1; Dup; Store 0; Jump d; Fail 1 badmatch; d: Return; Fail 0 function_clause")
}

func TestCodeOfCasesP7(t *testing.T) {
	worth(t, "2", `case X of 1 -> a; Y when Y > 1, true -> Y end`, `Step 1; Step 1; Load 0
		Pick 0; Is c2 1 1; Cut 0; Step 1; Push a; Jump end
		c2: Pick 0; Store 1; Guard c3; Step 1; Step 1; Load 1; Step 1; Push 1; Operate >; True; Step 1; Push true; True; Ended; Cut 0; Step 1; Load 1; Jump end
		c3: Fail 1 case_clause; end:`)
	worth(t, "3", `{1, 2, case Y = X of {_} -> Z = Y end, Z = 3}`, `Step 1; Step 1; Push 1; Step 1; Push 2
		Step 1; Step 1; Step 1; Load 0; Dup; Store 1; Jump e1; Fail 1 badmatch; e1: Pick 2; Untuple c2 3 1; Drop; Cut 2
		Step 1; Step 1; Load 1; Dup; Store 2; Jump e2; Fail 1 badmatch; e2: Jump end; c2: Fail 1 case_clause
		end: Step 1; Step 1; Push 3; Dup; Store 2; Jump e3; Fail 1 badmatch; e3: Tuple 4`)
	worth(t, "1", `begin 1, X end`, "Step 1; Step 1; Push 1; Drop; Step 1; Load 0")
	worth(t, "2", `{begin Y = 1 end, Y = 2}`, "Step 1; Step 1; Step 1; Step 1; Push 1; Dup; Store 1; Jump e1; Fail 1 badmatch; e1: Step 1; Step 1; Push 2; Dup; Store 1; Jump e2; Fail 1 badmatch; e2: Tuple 2")
}

func TestCodeOfComprehensionsP7(t *testing.T) {
	worth(t, "2", `[Y || Y <- X]`, "Step 1; Push []; Step 1; Load 0; Gen 0; next: Next out; Store 1; Step 1; Load 1; Add 0; Jump next; out:")
	worth(t, "1", `[X || X]`, "Step 1; Push []; Step 1; Load 0; Filter skip; Step 1; Load 0; Add 0; skip:")
	worth(t, "2", `{1, [Y || {Y, 1} <- X, Y > 0]}`, `Step 1; Step 1; Push 1; Step 1; Push []
		Step 1; Load 0; Gen 0; next: Next out; Untuple over 4 2; Store 1; Is over 4 1
		Step 1; Step 1; Load 1; Step 1; Push 0; Operate >; Filter over; Step 1; Load 1; Add 1; over: Jump next; out: Tuple 2`)
	worth(t, "3", `[{Y, Z} || true, Y <- X, Z <- Y]`, `Step 1; Push []; Step 1; Push true; Filter skip
		Step 1; Load 0; Gen 0; n1: Next o1; Store 1; Step 1; Load 1; Gen 0; n2: Next skip2; Store 2
		Step 1; Step 1; Load 1; Step 1; Load 2; Tuple 2; Add 0; Jump n2; skip2: Jump n1; o1: skip:`)
	worth(t, "2", `[Y || <<Y>> <- X]`, "Step 1; Push []; Step 1; Load 0; Gen 0; next: Next out; IsBin over 3; Take over 3 8 int; Store 1; End over 3; Step 1; Load 1; Add 0; over: Jump next; out:")
	worth(t, "2", `<<Y:4 || <<Y:4>> <- X>>`, `Step 1; Row; Step 1; Load 0; Gen 1; next: More out; Push 4; Take stop 4 0 int; Store 1; Took stop 4
		Row; Step 1; Load 1; Step 1; Push 4; Put 0 int; Join 0; Jump next; stop: Cut 2; out: Whole`)
	worth(t, "3", `{1, <<"ab" || <<1, Y/binary>> <- X, <<Z>> <- Y>>}`, `Step 1; Step 1; Push 1; Step 1; Row
		Step 1; Load 0; Gen 1; n1: More o1; Take s1 5 8 int; Is s1 5 1; Take s1 5 8 binary; Store 1; Took s1 5
		Step 1; Load 1; Gen 1; n2: More o2; Take s2 7 8 int; Store 2; Took s2 7
		Row; Step 1; Push [97, 98]; Put 24 int; Join 1; Jump n2; s2: Cut 5; o2: Jump n1; s1: Cut 3; o1: Whole; Tuple 2`)
	// What parts bind is not bound behind it; what the value binds isn't either.
	worth(t, "4", `{[Z = Y || Y <- W = X, W], Y = 1}`, `Step 1; Step 1; Push []; Step 1; Step 1; Load 0; Dup; Store 1; Jump e1; Fail 1 badmatch; e1: Gen 0; next: Next out; Store 2
		Step 1; Load 1; Filter skip; Step 1; Step 1; Load 2; Dup; Store 3; Jump e2; Fail 1 badmatch; e2: Add 0; skip: Jump next
		out: Step 1; Step 1; Push 1; Dup; Store 1; Jump e3; Fail 1 badmatch; e3: Tuple 2`)
}

func TestCodeOfTriesP7(t *testing.T) {
	worth(t, "2", `try X catch error:Y -> Y end`, `Step 1; Try caught; Step 1; Load 0; Ended; Jump end
		caught: Pick 1; Is c2 2 error; Pick 0; Store 1; Cut 0; Step 1; Load 1; Jump end; c2: Raise; end:`)
	worth(t, "2", `{a, try 1 catch C:_ when C == exit -> 2; X:[] -> 5 after 3, 4 end}`, `Step 1; Step 1; Push a
		Step 1; Try last; Try caught; Step 1; Push 1; Ended; Jump done
		caught: Pick 2; Store 1; Pick 1; Drop; Guard c2; Step 1; Step 1; Load 1; Step 1; Push exit; Operate ==; True; Ended; Cut 1; Step 1; Push 2; Jump done
		c2: Pick 2; Same c3 3 0; Pick 1; Unlist c3 3 0; Cut 1; Step 1; Push 5; Jump done
		c3: Raise; done: Ended; Push value; last: Step 1; Push 3; Drop; Step 1; Push 4; Drop; Resume; Tuple 2`)
	worth(t, "2", `try Y = 1 catch _:Y -> 1 after Y = 2 end`, `Step 1; Try last; Try caught; Step 1; Step 1; Push 1; Dup; Store 1; Jump e1; Fail 1 badmatch; e1: Ended; Jump done
		caught: Pick 1; Drop; Pick 0; Store 1; Cut 0; Step 1; Push 1; Jump done; Raise
		done: Ended; Push value; last: Step 1; Step 1; Push 2; Dup; Store 1; Jump e2; Fail 1 badmatch; e2: Drop; Resume`)
}

func TestCodeOfReceivesP7(t *testing.T) {
	worth(t, "1", `receive end`, "Step 1; Push infinity; Mark; next: Letter late; Cut 0; Jump next; late: Fail 0 no_after")
	worth(t, "1", `receive after X -> 1, 2 end`, "Step 1; Step 1; Load 0; Mark; next: Letter late; Cut 0; Jump next; late: Step 1; Push 1; Drop; Step 1; Push 2")
	worth(t, "2", `{1, receive Y -> Y; {a, 1} when X -> X end}`, `Step 1; Step 1; Push 1; Step 1; Push infinity; Mark
		next: Letter late; Pick 1; Store 1; Cut 1; Taken; Step 1; Load 1; Jump end
		Pick 1; Untuple c3 2 2; Is c3 2 a; Is c3 2 1; Guard c3; Step 1; Load 0; True; Ended; Cut 1; Taken; Step 1; Load 0; Jump end
		c3: Cut 1; Jump next; late: Fail 0 no_after; end: Tuple 2`)
	worth(t, "2", `receive Y -> Y after Y = 1 -> Y = 2 end`, `Step 1; Step 1; Step 1; Push 1; Dup; Store 1; Jump e1; Fail 1 badmatch; e1: Mark
		next: Letter late; Pick 0; Store 1; Cut 0; Taken; Step 1; Load 1; Jump end
		Cut 0; Jump next; late: Step 1; Step 1; Push 2; Dup; Store 1; Jump e2; Fail 1 badmatch; e2: end:`)
}

func TestCodeOfFunctionsP7(t *testing.T) {
	becomes(t, "f(1, X) -> X; f(X, a) when X, true -> X.", `
		f/2 1: Pick 0; Is n1 2 1; Pick 1; Store 0; Cut 0; Step 1; Load 0; Return
		n1: Pick 0; Store 0; Pick 1; Is n2 2 a; Guard n2; Step 1; Load 0; True; Step 1; Push true; True; Ended; Cut 0; Step 1; Load 0; Return
		n2: Fail 0 function_clause`)
	becomes(t, "export g/0. export f/0. f() -> 1. g() -> 2. h() -> 3.", `
		f/0 0: Cut 0; Step 1; Push 1; Return; Fail 0 function_clause
		g/0 0: Cut 0; Step 1; Push 2; Return; Fail 0 function_clause
		h/0 0: Cut 0; Step 1; Push 3; Return; Fail 0 function_clause`)
	becomes(t, "", "")
}

// The tables of a module.
func TestTablesOfCodeP7(t *testing.T) {
	tree := parsed(t, "module tab. export g/0. export h/2. f(A) -> fun() -> fun g/0 end. g() -> fun(B, A) -> {fun hd/1, B} end. h(_, _) -> fun h/2.")
	code := compiled(t, tree)
	var names []string
	for _, f := range code.Fns {
		names = append(names, f.Name)
		n := tree[f.Node]
		switch {
		case f.Name != "" && (n.Kind != impl.NdFunc || n.S != f.Name || n.N != f.Arity || f.Held != 0 || f.Export != (f.Name != "f")):
			t.Error(f)
		case f.Name == "" && (n.Kind != impl.NdFun || f.Export):
			t.Error(f)
		}
	}
	if code.Name != "tab" || !slices.Equal(names, []string{"f", "g", "h", "", ""}) {
		t.Error(code.Name, names)
	}
	if code.Fns[3].Node >= code.Fns[4].Node || code.Fns[3].Arity != 0 || code.Fns[4].Arity != 2 || code.Fns[4].Slots != 2 {
		t.Error(code.Fns)
	}
	places := placesOf(tree, impl.NdRefer)
	if want := []impl.CodeRef{{Node: places[0], Name: "g"}, {Node: places[1], Name: "hd", Arity: 1}, {Node: places[2], Name: "h", Arity: 2}}; !slices.Equal(code.Refers, want) {
		t.Error(code.Refers)
	}
	if code := compiled(t, parsed(t, "module m.")); code.Name != "m" || len(code.Fns)+len(code.Refers)+len(code.Ins) != 0 {
		t.Error(code)
	}
}
