package tests

import (
	"math/rand"
	"strings"
	"testing"

	"loop.example/g00019/impl"
)

// shortRows is all rows of at most 5 bits, and some by chance of each length up to 40.
func shortRows() []string {
	all := []string{""}
	for i := 0; len(all[i]) < 5; i++ {
		all = append(all, all[i]+"0", all[i]+"1")
	}
	r := rand.New(rand.NewSource(2))
	for n := 6; n <= 40; n++ {
		all = append(all, anyDigits(r, n), strings.Repeat("1", n))
	}
	return all
}

func TestRightRows(t *testing.T) {
	for _, s := range shortRows() {
		if !impl.BitsOK(row(s)) {
			t.Error(s)
		}
	}
	for _, n := range []int{31992, 31999, 32000} {
		if !impl.BitsOK(ones(n)) || !impl.BitsOK(impl.Bits{Len: n, Bytes: strings.Repeat("\x00", (n+7)/8)}) {
			t.Error(n)
		}
	}
}

// All rows of one byte, and of two whose first says nothing.
func TestRowsOfEachByte(t *testing.T) {
	for n := range 18 {
		for c := range 256 {
			one := impl.BitsOK(impl.Bits{Len: n, Bytes: string([]byte{byte(c)})})
			if want := n >= 1 && n <= 8 && c%(256>>n) == 0; one != want {
				t.Error(n, c, one)
			}
			two := impl.BitsOK(impl.Bits{Len: n, Bytes: string([]byte{255, byte(c)})})
			if want := n >= 9 && n <= 16 && c%(256>>(n-8)) == 0; two != want {
				t.Error(n, c, two)
			}
		}
	}
}

func TestWrongRows(t *testing.T) {
	for what, w := range wrongRows() {
		if impl.BitsOK(w) {
			t.Error(what, "is right")
		}
		if b, code := impl.BitsJoin(w, row("1")); b != (impl.Bits{}) || code != impl.ErrBad {
			t.Error(what, "ahead", b, code)
		}
		if b, code := impl.BitsJoin(row("1"), w); b != (impl.Bits{}) || code != impl.ErrBad {
			t.Error(what, "behind", b, code)
		}
		if b, code := impl.BitsJoin(ones(32000), w); b != (impl.Bits{}) || code != impl.ErrBad {
			t.Error(what, "behind as many as there may be", b, code)
		}
		if b, code := impl.BitsCut(w, 0, 0); b != (impl.Bits{}) || code != impl.ErrBad {
			t.Error(what, "cut", b, code)
		}
		if v, code := impl.BitGet(w, 0, 0, false, false); v != 0 || code != impl.ErrBad {
			t.Error(what, "get", v, code)
		}
		if terms, code := impl.BitMatch(w, []impl.Seg{bins("", -1, 1)}); len(terms) != 0 || code != impl.ErrBad {
			t.Error(what, "match", terms, code)
		}
	}
}

func TestJoin(t *testing.T) {
	for _, a := range shortRows() {
		for _, b := range shortRows() {
			if got, code := impl.BitsJoin(row(a), row(b)); got != row(a+b) || code != impl.OK {
				t.Fatal(a, b, digits(got), code)
			}
		}
	}
}

func TestJoinAtItsLimit(t *testing.T) {
	r := rand.New(rand.NewSource(3))
	for _, n := range []int{0, 1, 7, 8, 9, 15999, 16000, 31992, 31999, 32000} {
		a, b := anyDigits(r, n), anyDigits(r, 32000-n)
		if got, code := impl.BitsJoin(row(a), row(b)); got != row(a+b) || code != impl.OK {
			t.Error(n, got.Len, code)
		}
		if n == 0 {
			continue // b and one more would be no row
		}
		if got, code := impl.BitsJoin(row(a), row(b+"0")); got != (impl.Bits{}) || code != impl.ErrFull {
			t.Error(n, "and one more", got.Len, code)
		}
	}
	if got, code := impl.BitsJoin(ones(32000), ones(32000)); got != (impl.Bits{}) || code != impl.ErrFull {
		t.Error(got.Len, code)
	}
}

func TestCut(t *testing.T) {
	for _, s := range shortRows() {
		for from := range len(s) + 1 {
			for n := range len(s) - from + 1 {
				if got, code := impl.BitsCut(row(s), from, n); got != row(s[from:from+n]) || code != impl.OK {
					t.Fatal(s, from, n, digits(got), code)
				}
			}
		}
	}
	long := anyDigits(rand.New(rand.NewSource(4)), 32000)
	for _, x := range [][2]int{{0, 32000}, {1, 31999}, {8, 31992}, {31999, 1}, {32000, 0}, {7, 31985}, {16, 31977}} {
		if got, code := impl.BitsCut(row(long), x[0], x[1]); got != row(long[x[0]:x[0]+x[1]]) || code != impl.OK {
			t.Error(x, got.Len, code)
		}
	}
}

// extremes is places and sizes that no row has.
func extremes() []int { return []int{-1 << 63, -1<<63 + 1, -1 << 62, 1 << 62, 1<<63 - 2, 1<<63 - 1} }

func TestCutOfWhatIsNotThere(t *testing.T) {
	s := row("1111 1111 1111")
	wrong := [][2]int{{-1, 0}, {-1, 1}, {-1, 5}, {0, -1}, {3, -1}, {12, -1}, {0, 13}, {1, 12}, {11, 2}, {12, 1}, {13, 0}, {13, -1}, {20, 1}, {8, 8}}
	for _, n := range extremes() {
		wrong = append(wrong, [2]int{n, 0}, [2]int{n, 1}, [2]int{n, n}, [2]int{0, n}, [2]int{1, n}, [2]int{12, n}, [2]int{n, -n}, [2]int{-n, n}, [2]int{1<<63 - 1, n})
	}
	for _, x := range wrong {
		if got, code := impl.BitsCut(s, x[0], x[1]); got != (impl.Bits{}) || code != impl.ErrBad {
			t.Error(x, got, code)
		}
	}
}
