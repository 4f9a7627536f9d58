package tests

import (
	"fmt"
	"strings"
	"testing"

	"loop.example/g00019/impl"
)

// polishedWell asks all that is said of polished code, of what is polished once more, too, and counts what was done.
func polishedWell(t *testing.T, r chance, seen map[string]int, code impl.Code, fuel int) {
	t.Helper()
	less := polished(t, code)
	for _, a := range saysTheSame(t, r, code, less, fuel) {
		tally(seen, a)
	}
	p := &polishing{code: copiedCode(code), worked: seen}
	p.all()
	seen["sound"]++
	if again := polished(t, less); !sameCode(again, less) {
		saysTheSame(t, r, less, again, fuel)
		seen["again"]++
	}
}

// P10: what modules by chance become.
func TestCompiledCodeIsPolishedP10(t *testing.T) {
	t.Parallel()
	r := newChance(61)
	seen := map[string]int{}
	for _, m := range spokenModules(t, 1200) {
		polishedWell(t, r, seen, compiled(t, flat(m)), 400)
	}
	tallied(t, seen, 20, "value error throw exit fuel pass1 steps Tuple List Cons Map Operate Unary jumped jumps pass4 stopped again")
}

// P10: such code that is spoilt, once or twice, when it is sound.
func TestSpoiltCodeIsPolishedP10(t *testing.T) {
	t.Parallel()
	r := &speaker{chance: newChance(62)}
	seen := map[string]int{}
	for _, m := range spokenModules(t, 500) {
		whole := compiled(t, flat(m))
		for range 20 {
			code := r.spoiltCode(whole)
			if r.Intn(3) == 0 {
				code = r.spoiltCode(code)
			}
			if wrong, _ := impl.Verify(code); wrong == impl.OK && !sameCode(code, whole) {
				polishedWell(t, r.chance, seen, code, 200)
			} else if wrong != impl.OK {
				refusesToPolish(t, listing(code), code)
			}
		}
	}
	tallied(t, seen, 700, "sound")
	tallied(t, seen, 5, "value error throw exit fuel bad_code badarg badarith not_pure pass1 steps Tuple List Cons Map Operate Unary jumped jumps pass4 stopped")
}

// P10: short codes by chance, when they are sound.
func TestAnyCodeIsPolishedP10(t *testing.T) {
	t.Parallel()
	r := &speaker{chance: newChance(63)}
	seen := map[string]int{}
	for range 30000 {
		code := r.anyCode()
		if wrong, _ := impl.Verify(code); wrong == impl.OK {
			polishedWell(t, r.chance, seen, code, 50)
		}
	}
	tallied(t, seen, 3000, "sound")
}

// pushing is code of steps, pushes, and what makes a value of them, with places that something goes to strewn in.
func (r *speaker) pushing() impl.Code {
	var lines []string
	height := 0
	n := 4 + r.Intn(25)
	heights := map[int]int{} // of the places that something goes to, by what stands there
	for i := range n {
		if h, is := heights[i]; is && h != height {
			for ; height > h; height-- {
				lines = append(lines, "Drop")
			}
			for ; height < h; height++ {
				lines = append(lines, "Push 7")
			}
		}
		lines = append(lines, fmt.Sprintf("p%d: Step %s", i, r.of("1", "1", "2", "50000", "99998", "100000")))
		if r.Intn(4) > 0 {
			lines[len(lines)-1] = fmt.Sprintf("p%d: %s", i, r.anyMaking(&height))
		}
		if to := i + 1 + r.Intn(6); to < n && r.Intn(9) == 0 {
			if h, is := heights[to]; !is || h == height {
				heights[to] = height
				lines = append(lines, fmt.Sprintf("%s; Filter p%d", r.of("Load 0", "Push true", "Push true", "Push false"), to))
			}
		}
	}
	code := codeOf(fmt.Sprintf("f/1 2: Store 0; %s; List %d; Return\ng/0 0: Push 1; Push 2; Tuple 2; Return", strings.Join(lines, "; "), height))
	code.Refers = []impl.CodeRef{{Node: 3, Name: "g", Arity: 0}}
	return code
}

// anyMaking is an instruction that pushes something, or makes something of the top.
func (r *speaker) anyMaking(height *int) string {
	push := func() string {
		*height++
		return r.of("Push 1", "Push 2", "Push a", "Push true", "Push []", "Push [3, b]", "Push #{}", "Push #{a => 1}", "Push {x}", "Push #f3{}", "Push {#f3{}}", "Load 0", "Load 1", "Push 1000000000000000", "Push 0", "Push false")
	}
	take := func(least int, name string, fields string) string {
		if *height < least {
			return push()
		}
		*height -= least - 1
		return name + fields
	}
	k := r.Intn(3)
	switch r.Intn(15) {
	case 0:
		return take(k, "Tuple", fmt.Sprint(" ", k))
	case 1:
		return take(k, "List", fmt.Sprint(" ", k))
	case 2:
		return take(k+1, "Cons", fmt.Sprint(" ", k))
	case 8:
		return take(k, r.of("Push []; Cons", "Push [1]; Cons"), fmt.Sprint(" ", k))
	case 3:
		return take(2*k, "Map", fmt.Sprint(" 0 ", k))
	case 4:
		return take(2*k+1, "Map", fmt.Sprint(" 1 ", k))
	case 5, 6:
		return take(2, "Operate", " "+r.of("+", "-", "*", "div", "rem", "==", "<", "++", "and", "or"))
	case 7:
		return take(1, "Unary", " "+r.of("-", "not"))
	case 9:
		*height++
		return r.of("Push 1; Step 1; Push 2; Operate +", "Push [1]; Push [2]; Step 1; Operate ++", "Push true; Unary not", "Push a; Push 1; Push #{b => 2}; Step 2; Map 1 1")
	}
	return push()
}

// P10: codes by chance of steps, pushes, and what is made of them.
func TestPushingCodeIsPolishedP10(t *testing.T) {
	t.Parallel()
	r := &speaker{chance: newChance(64)}
	seen := map[string]int{}
	for range 2500 {
		code := r.pushing()
		if wrong, at := impl.Verify(code); wrong != impl.OK {
			t.Fatal(wrong, at, listing(code))
		}
		polishedWell(t, r.chance, seen, code, impl.MaxFuel)
	}
	tallied(t, seen, 100, "value error fuel steps Tuple List Cons Map Operate Unary")
}

// jumping is code in which most instructions go elsewhere: to places all of which are reached with one value.
func (r *speaker) jumping() impl.Code {
	n := 5 + r.Intn(12)
	var letters []int // to which may be gone back
	text := "f/1 1: "
	for i := range n {
		on := func() string { return fmt.Sprint("p", i+1+r.Intn(min(n-i, 5))) }
		text += fmt.Sprintf("p%d: ", i)
		switch r.Intn(17) {
		case 0, 1, 2, 3, 4:
			text += "Jump " + on()
		case 5, 6:
			if len(letters) > 0 {
				text += fmt.Sprint("Jump p", letters[r.Intn(len(letters))])
			} else {
				text += "Jump " + on()
			}
		case 7, 8:
			letters = append(letters, i)
			text += "Letter " + on() + "; Drop"
		case 9:
			text += "Pick 0; Is " + on() + " 1 " + r.of("0", "a", "true")
		case 10:
			text += "Pick 0; Same " + on() + " 1 0"
		case 11:
			text += "Pick 0; Filter " + on()
		case 12:
			text += "Guard " + on() + "; Step 1; Pick 0; True; Ended"
		case 13:
			text += fmt.Sprintf("Push true; Also q%d %s; Push 1; q%d: Store 0", i, r.of("orelse", "andalso"), i)
		case 14:
			text += fmt.Sprintf("Try q%d; Pick 0; Unary -; Ended; Jump r%d; q%d: Drop; r%d: Store 0", i, i, i, i)
		case 15:
			text += fmt.Sprintf("Push [true, 1, 0]; Push 0; q%d: Next %s; Is q%d 3 %s; Jump q%d", i, on(), i+100, r.of("1", "5"), i) + fmt.Sprintf("; q%d: Jump q%d", i+100, i)
		case 16:
			text += r.of("Step 1", "Fail 1 oops", "Store 0; Push 0", "Push 1; Unary -; Store 0")
		}
		text += "; "
	}
	return codeOf(text + fmt.Sprintf("p%d: Return\ng/1 0: Jump on; on: Return", n))
}

// P10: codes by chance of jumps, and of what leads to jumps.
func TestJumpingCodeIsPolishedP10(t *testing.T) {
	t.Parallel()
	r := &speaker{chance: newChance(65)}
	seen := map[string]int{}
	for range 4000 {
		code := r.jumping()
		if wrong, _ := impl.Verify(code); wrong == impl.OK {
			polishedWell(t, r.chance, seen, code, 60)
		}
	}
	tallied(t, seen, 3000, "sound")
	tallied(t, seen, 100, "value error pass1 jumped jumps pass4 back stopped again")
}
