package tests

import (
	"math/big"
	"slices"
	"strconv"

	"loop.example/g00019/impl"
)

func unaryByWords(op string, v impl.Term) (impl.Term, *upward) {
	switch {
	case op == "-" && v.Kind == impl.TmInt:
		return num(-v.N), nil
	case op == "-":
		return impl.Term{}, goesError("badarith")
	case !isYesOrNo(v):
		return impl.Term{}, goesError("badarg")
	}
	return yes(!isYes(v)), nil
}

// operatorByWords is what an operator other than andalso and orelse makes.
func operatorByWords(op string, a, b impl.Term) (impl.Term, *upward) {
	order := orderByWords(a, b)
	comparisons := map[string][]int{"==": {0}, "=:=": {0}, "/=": {-1, 1}, "=/=": {-1, 1}, "<": {-1}, "=<": {-1, 0}, ">": {1}, ">=": {0, 1}}
	if orders, is := comparisons[op]; is {
		return yes(slices.Contains(orders, order)), nil
	}
	switch op {
	case "++":
		if a.Kind != impl.TmList || b.Kind != impl.TmList {
			return impl.Term{}, goesError("badarg")
		}
		return right(list(slices.Concat(a.Kids, b.Kids)...))
	case "and", "or":
		for _, v := range []impl.Term{a, b} {
			if !isYesOrNo(v) {
				return impl.Term{}, goesWith("badarg", v)
			}
		}
		return yes(op == "and" && isYes(a) && isYes(b) || op == "or" && (isYes(a) || isYes(b))), nil
	}
	return arithmeticByWords(op, a, b)
}

func arithmeticByWords(op string, a, b impl.Term) (impl.Term, *upward) {
	if a.Kind != impl.TmInt || b.Kind != impl.TmInt || b.N == 0 && (op == "div" || op == "rem") {
		return impl.Term{}, goesError("badarith")
	}
	x, y := big.NewInt(int64(a.N)), big.NewInt(int64(b.N))
	switch op {
	case "+":
		x.Add(x, y)
	case "-":
		x.Sub(x, y)
	case "*":
		x.Mul(x, y)
	case "div":
		x.Quo(x, y)
	case "rem":
		x.Rem(x, y)
	}
	if !x.IsInt64() {
		return impl.Term{}, goesError("system_limit")
	}
	return right(num(int(x.Int64())))
}

// wantedKinds is the Kinds that a function of 4.3 wants its arguments to have; 0 is any.
var wantedKinds = map[string][]int{
	"length": {impl.TmList}, "hd": {impl.TmList}, "tl": {impl.TmList}, "tuple_size": {impl.TmTuple}, "map_size": {impl.TmMap}, "byte_size": {impl.TmBin}, "abs": {impl.TmInt},
	"element": {impl.TmInt, impl.TmTuple}, "map_get": {0, impl.TmMap}, "reverse": {impl.TmList}, "tuple_to_list": {impl.TmTuple}, "list_to_tuple": {impl.TmList}, "binary_to_list": {impl.TmBin}, "list_to_binary": {impl.TmList},
	"map_keys": {impl.TmMap}, "map_values": {impl.TmMap}, "map_remove": {0, impl.TmMap}, "setelement": {impl.TmInt, impl.TmTuple, 0}, "integer_to_list": {impl.TmInt}, "binary_to_term": {impl.TmBin},
}

var askedKinds = map[string]int{"is_integer": impl.TmInt, "is_atom": impl.TmAtom, "is_tuple": impl.TmTuple, "is_list": impl.TmList, "is_map": impl.TmMap, "is_binary": impl.TmBin, "is_pid": impl.TmPid, "is_ref": impl.TmRef, "is_function": impl.TmFun}

// thereByWords is what a function of 4.3 answers.
func thereByWords(name string, args []impl.Term) (impl.Term, *upward) {
	if isNamed(processNames, name, len(args)) {
		return impl.Term{}, goesError("not_pure")
	}
	if kind, is := askedKinds[name]; is {
		return yes(args[0].Kind == kind), nil
	}
	if class := slices.Index([]string{"", "error", "throw", "exit"}, name); class > 0 {
		return impl.Term{}, &upward{class, args[0]}
	}
	for i, kind := range wantedKinds[name] {
		if kind != 0 && args[i].Kind != kind {
			return impl.Term{}, goesError("badarg")
		}
	}
	v, up := lookByWords(name, args)
	if v.Kind == 0 && up == nil {
		v, up = makeByWords(name, args)
	}
	if up != nil {
		return impl.Term{}, up
	}
	return right(v)
}

// lookByWords is what a function that only looks at its arguments answers; the zero Term for another one.
func lookByWords(name string, args []impl.Term) (impl.Term, *upward) {
	a := args[0]
	switch name {
	case "length", "tuple_size":
		return num(len(a.Kids)), nil
	case "map_size":
		return num(len(a.Kids) / 2), nil
	case "byte_size":
		return num(len(a.S)), nil
	case "abs":
		return num(max(a.N, -a.N)), nil
	case "hd", "tl":
		if len(a.Kids) == 0 {
			return a, goesError("badarg")
		}
		return map[string]impl.Term{"hd": a.Kids[0], "tl": list(a.Kids[1:]...)}[name], nil
	case "element":
		if a.N < 1 || a.N > len(args[1].Kids) {
			return a, goesError("badarg")
		}
		return args[1].Kids[a.N-1], nil
	case "map_get":
		for i := 0; i < len(args[1].Kids); i += 2 {
			if same(args[1].Kids[i], a) {
				return args[1].Kids[i+1], nil
			}
		}
		return a, goesWith("badkey", a)
	case "hash":
		return num(hashByWords(a)), nil
	}
	return impl.Term{}, nil
}

func makeByWords(name string, args []impl.Term) (impl.Term, *upward) {
	a := args[0]
	switch name {
	case "reverse":
		kids := slices.Clone(a.Kids)
		slices.Reverse(kids)
		return list(kids...), nil
	case "tuple_to_list":
		return list(a.Kids...), nil
	case "list_to_tuple":
		return tuple(a.Kids...), nil
	case "binary_to_list":
		return bytesList(a.S), nil
	case "list_to_binary":
		var bytes []byte
		for _, kid := range a.Kids {
			if kid.Kind != impl.TmInt || kid.N < 0 || kid.N > 255 {
				return a, goesError("badarg")
			}
			bytes = append(bytes, byte(kid.N))
		}
		return bin(string(bytes)), nil
	case "setelement":
		kids := slices.Clone(args[1].Kids)
		if a.N < 1 || a.N > len(kids) {
			return a, goesError("badarg")
		}
		kids[a.N-1] = args[2]
		return tuple(kids...), nil
	case "integer_to_list":
		return bytesList(strconv.Itoa(a.N)), nil
	case "term_to_binary":
		s, code := impl.TermPack(a)
		return bin(s), badUnlessOK(code)
	case "binary_to_term":
		t, code := impl.TermUnpack(a.S)
		return t, badUnlessOK(code)
	}
	return pickByWords(name, args)
}

func badUnlessOK(code int) *upward {
	if code != impl.OK {
		return goesError("badarg")
	}
	return nil
}

// pickByWords is what map_keys, map_values and map_remove answer.
func pickByWords(name string, args []impl.Term) (impl.Term, *upward) {
	var picked []impl.Term
	m := args[len(args)-1].Kids
	for i := 0; i < len(m); i += 2 {
		switch {
		case name == "map_keys":
			picked = append(picked, m[i])
		case name == "map_values":
			picked = append(picked, m[i+1])
		case !same(m[i], args[0]):
			picked = append(picked, m[i], m[i+1])
		}
	}
	if name == "map_remove" {
		return dict(picked...), nil
	}
	return list(picked...), nil
}

// sameAnswer is whether two answers are alike.
func sameAnswer(a, b impl.Answer) bool {
	return a.Class == b.Class && a.Used == b.Used && same(a.V, b.V)
}
