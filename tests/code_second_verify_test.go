package tests

import (
	"reflect"
	"regexp"
	"slices"
	"strings"

	"loop.example/g00019/impl"
)

// situation is how an instruction is reached: how many values there are, and its handlers, the latest one last.
type situation struct {
	values   int
	handlers []handlerByWords
}

type handlerByWords struct{ op, at, values int }

const reservedByWords = " after and andalso begin case catch div end export fun module not of or orelse receive rem try when "

var nameByWords = regexp.MustCompile(`^[a-z][a-zA-Z0-9_]{0,29}$`)

func isAtomByWords(s string) bool {
	return nameByWords.MatchString(s) && !strings.HasSuffix(s, "\n") && !strings.Contains(reservedByWords, " "+s+" ")
}

func isRemoteByWords(s string) bool {
	words := strings.Split(s, ":")
	return len(words) == 2 && isAtomByWords(words[0]) && isAtomByWords(words[1])
}

// between tells whether a number is from low to high.
func between(n, low, high int) bool { return n >= low && n <= high }

// tablesByWords tells whether the tables are right.
func tablesByWords(code impl.Code) bool {
	if !isAtomByWords(code.Name) || len(code.Ins) > 20000 || (len(code.Fns) == 0) != (len(code.Ins) == 0) {
		return false
	}
	var nodes []int
	for k, f := range code.Fns {
		if !between(f.Arity, 0, 2000) || !between(f.Slots, 0, 2000) || !between(f.Held, 0, f.Slots) || !between(f.Node, 0, 1999) {
			return false
		}
		if k == 0 && f.At != 0 || k > 0 && f.At <= code.Fns[k-1].At || f.At >= len(code.Ins) {
			return false
		}
		if f.Name != "" && (!isAtomByWords(f.Name) || f.Held != 0) || f.Name == "" && f.Export {
			return false
		}
		for _, ahead := range code.Fns[:k] {
			switch {
			case f.Name != "" && ahead.Name == "":
				return false
			case f.Name != "" && f.Name == ahead.Name && f.Arity == ahead.Arity:
				return false
			case f.Name == "" && ahead.Name == "" && f.Node <= ahead.Node:
				return false
			}
		}
		nodes = append(nodes, f.Node)
	}
	for k, r := range code.Refers {
		if !isAtomByWords(r.Name) || !between(r.Arity, 0, 2000) || !between(r.Node, 0, 1999) || k > 0 && r.Node <= code.Refers[k-1].Node {
			return false
		}
		nodes = append(nodes, r.Node)
	}
	slices.Sort(nodes)
	return len(slices.Compact(slices.Clone(nodes))) == len(nodes)
}

// verifyByWords is a second reading of 5.3.
func verifyByWords(code impl.Code) (int, int) {
	_, wrong, at := rulesByWords(code)
	return wrong, at
}

// rulesByWords is the rules as they are behind the last instruction, or the first that is wrong.
func rulesByWords(code impl.Code) (*rules, int, int) {
	if !tablesByWords(code) {
		return nil, impl.ErrBad, 0
	}
	v := &rules{code: code, reached: make([]*situation, len(code.Ins))}
	for k, f := range code.Fns {
		v.fn, v.begin, v.end = f, f.At, len(code.Ins)
		if k+1 < len(code.Fns) {
			v.end = code.Fns[k+1].At
		}
		v.reached[v.begin] = &situation{values: f.Arity}
		for i := v.begin; i < v.end; i++ {
			if !v.right(i) {
				return v, impl.ErrCode, i
			}
		}
	}
	return v, impl.OK, 0
}

// rules is the rules 1 to 9 at the instructions of a block.
type rules struct {
	code       impl.Code
	reached    []*situation
	fn         impl.CodeFn
	begin, end int
}

var failing = strings.Fields("Is Same Untuple Unlist Untail IsMap Get IsBin Take End Took")

func (v *rules) right(i int) bool {
	n, s := v.code.Ins[i], v.reached[i]
	if n.Op < 1 || n.Op > 53 || plain(n) != "" { // 1
		return false
	}
	name := opRows[n.Op].name
	values := 10000
	if s != nil {
		values = s.values
	}
	if !v.right2(i, n, name, s) || !right3(n, name, values) || !v.right4(n, name, values) || !right5(n, name) {
		return false
	}
	if s == nil {
		return true
	}
	return v.right6(n, name, s) && right7(n, name, s) && v.right89(i, n, name, s)
}

func (v *rules) right2(i int, n impl.Ins, name string, s *situation) bool {
	switch {
	case !strings.Contains(opRows[n.Op].fields, "A"):
		return true
	case name == "Step":
		return between(n.A, 1, 100000)
	case between(n.A, i+1, v.end-1):
		return true
	case name != "Jump" || !between(n.A, v.begin, v.end-1):
		return false
	case s == nil:
		return true
	}
	to := v.code.Ins[n.A].Op
	return v.reached[n.A] != nil && between(n.A, v.begin, i-1) && (to == impl.OpNext || to == impl.OpMore || to == impl.OpLetter)
}

func right3(n impl.Ins, name string, values int) bool {
	if strings.Contains(opRows[n.Op].fields, "V") && !impl.TermOK(n.V) {
		return false
	}
	if name == "Map" {
		return n.B == 0 || n.B == 1
	}
	return !slices.Contains(failing, name) || between(n.B, 0, values)
}

func (v *rules) right4(n impl.Ins, name string, values int) bool {
	switch name {
	case "Load", "Store", "Same":
		return between(n.C, 0, v.fn.Slots-1)
	case "Pick":
		return between(n.C, 0, values-1)
	case "Cut":
		return between(n.C, 0, values)
	case "Untuple", "Unlist", "Untail", "Tuple", "List", "Cons", "Map", "Builtin", "Remote", "Apply":
		return between(n.C, 0, 2000)
	case "Take", "Put":
		if !between(n.C, 0, 31) {
			return false
		}
		bits := []bool{n.C%2 == 1, n.C/2%2 == 1, n.C/4%2 == 1, n.C/8%2 == 1, n.C/16 == 1}
		if n.S == "int" && bits[2] || n.S == "binary" && (bits[0] || bits[1] || bits[4]) {
			return false
		}
		return name == "Put" || !bits[4]
	case "Add":
		return between(n.C, 0, values-2)
	case "Join":
		return between(n.C, 0, values-4)
	case "Call", "Fun":
		return between(n.C, 0, len(v.code.Fns)-1) && (v.code.Fns[n.C].Name != "") == (name == "Call")
	case "Fail", "Gen":
		return between(n.C, 0, 1)
	}
	return true
}

func right5(n impl.Ins, name string) bool {
	switch name {
	case "Take", "Put":
		return n.S == "int" || n.S == "binary"
	case "Operate":
		return slices.Contains(strings.Fields("or and == /= =:= =/= < =< > >= ++ + - * div rem"), n.S)
	case "Unary":
		return n.S == "-" || n.S == "not"
	case "Also":
		return n.S == "andalso" || n.S == "orelse"
	case "Builtin":
		return isAtomByWords(n.S) && isNamed(guardNames+plainNames+processNames, n.S, n.C)
	case "Remote":
		return isRemoteByWords(n.S)
	case "Fail":
		return isAtomByWords(n.S)
	}
	return true
}

// looks is how many values from the top on are taken or looked at.
func (v *rules) looks(n impl.Ins, name string) int {
	switch name {
	case "Store", "Drop", "Is", "Same", "Untuple", "Unlist", "Untail", "Add", "Unary", "Filter", "Mark", "True", "Dup", "IsMap", "Get", "IsBin", "Also", "Gen", "Return":
		return 1
	case "End", "Whole", "Join", "Operate", "Send", "Raise", "Resume", "Next", "More":
		return 2
	case "Took":
		return 3
	case "Take":
		return 3 - n.C/8%2
	case "Put":
		return 4 - n.C/8%2
	case "Tuple", "List", "Builtin", "Remote", "Fail":
		return n.C
	case "Cons", "Apply":
		return n.C + 1
	case "Map":
		return 2*n.C + n.B
	case "Call":
		return v.code.Fns[n.C].Arity
	case "Fun":
		return v.code.Fns[n.C].Held
	}
	return 0
}

func (v *rules) right6(n impl.Ins, name string, s *situation) bool {
	low := 0
	if len(s.handlers) > 0 {
		low = s.handlers[len(s.handlers)-1].values
	}
	if s.values-v.looks(n, name) < low {
		return false
	}
	return (!slices.Contains(failing, name) || n.B >= low) && (name != "Cut" || n.C >= low)
}

func right7(n impl.Ins, name string, s *situation) bool {
	switch name {
	case "Return":
		return s.values == 1 && len(s.handlers) == 0
	case "Ended":
		return len(s.handlers) > 0
	case "Try", "Guard":
		return len(s.handlers) < 1000
	}
	return true
}

// leaves is how many values more (or less) there are at the next instruction.
func (v *rules) leaves(n impl.Ins, name string, values int) int {
	switch name {
	case "Push", "Load", "Pick", "Dup", "Get", "IsBin", "Gen", "Next", "Letter":
		return 1
	case "Row", "More":
		return 2
	case "Store", "Drop", "Is", "Same", "Add", "Operate", "Also", "Resume", "True", "Filter", "Send", "Mark", "Whole":
		return -1
	case "End", "Took", "Join":
		return -2
	case "Cut":
		return n.C - values
	case "Untuple", "Unlist":
		return n.C - 1
	case "Untail":
		return n.C
	case "Take":
		return n.C / 8 % 2
	case "Put":
		return n.C/8%2 - 2
	case "Tuple", "List", "Cons", "Map", "Call", "Builtin", "Remote", "Apply", "Fun":
		return 1 - v.looks(n, name)
	}
	return 0
}

func (v *rules) right89(i int, n impl.Ins, name string, s *situation) bool {
	next := situation{s.values + v.leaves(n, name, s.values), s.handlers}
	away := situation{s.values, s.handlers}
	switch name {
	case "Try", "Guard":
		next.handlers = append(slices.Clone(s.handlers), handlerByWords{n.Op, n.A, s.values})
		if name == "Try" {
			away.values += 2
		}
	case "Ended":
		next.handlers = s.handlers[:len(s.handlers)-1]
	case "Next", "More":
		away.values -= 2
	case "Filter":
		away.values--
	}
	if slices.Contains(failing, name) {
		away.values = n.B
	}
	ends := slices.Contains([]string{"Jump", "Return", "Fail", "Raise"}, name)
	if !ends && (i+1 >= v.end || !v.reaches(i+1, next)) {
		return false
	}
	goes := strings.Contains(opRows[n.Op].fields, "A") && name != "Step"
	return !goes || v.reaches(n.A, away)
}

func (v *rules) reaches(at int, s situation) bool {
	if s.values > 10000 {
		return false
	}
	if v.reached[at] == nil {
		v.reached[at] = &s
		return true
	}
	was := v.reached[at]
	return was.values == s.values && (len(was.handlers)+len(s.handlers) == 0 || reflect.DeepEqual(was.handlers, s.handlers))
}
