package tests

import (
	"math/rand"
	"testing"

	"loop.example/g00019/impl"
)

// edgeNumbers is numbers about each power of 2, and some by chance.
func edgeNumbers() []int {
	r := rand.New(rand.NewSource(5))
	all := []int{0, 5, 0x123, 0x123456789abcd, -0x123456789abcd, impl.MaxInt, -impl.MaxInt}
	for i := range 64 {
		n := 1 << i
		all = append(all, n-1, n, n+1, -n-1, -n, -n+1, int(r.Uint64()>>i))
	}
	return all
}

func TestPutP3(t *testing.T) {
	for _, v := range edgeNumbers() {
		for size := range 50 {
			for _, little := range []bool{false, true} {
				got, code := impl.BitPut(v, size, little)
				if got != row(putByWords(v, size, little)) || code != impl.OK {
					t.Fatal(v, size, little, digits(got), code)
				}
			}
		}
	}
}

// The bits written out, so that the second reading is held by something too.
func TestPutWrittenOutP3(t *testing.T) {
	for _, x := range []struct {
		v, size int
		little  bool
		want    string
	}{
		{0, 0, false, ""}, {-1, 0, true, ""}, {7, 0, true, ""},
		{1, 1, false, "1"}, {2, 1, false, "0"}, {-1, 1, true, "1"},
		{6, 3, false, "110"}, {6, 3, true, "110"}, {9, 3, false, "001"},
		{0x12, 8, false, "00010010"}, {0x12, 8, true, "00010010"},
		{0x101, 9, false, "100000001"}, {0x101, 9, true, "00000001 1"}, {0x002, 9, true, "00000010 0"},
		{0x123, 12, false, "0001 0010 0011"}, {0x123, 12, true, "0010 0011 0001"}, {-0x123, 12, true, "1101 1101 1110"},
		{0x1234, 16, true, "0011 0100 0001 0010"},
		{0x1234, 17, false, "0 0001 0010 0011 0100"}, {0x11234, 17, true, "0011 0100 0001 0010 1"},
		{0x345678, 22, true, "0111 1000 0101 0110 110100"},
		{1, 49, true, "00000001 00000000 00000000 00000000 00000000 00000000 0"},
		{1 << 48, 49, true, "00000000 00000000 00000000 00000000 00000000 00000000 1"},
		{1 << 48, 49, false, "10000000 00000000 00000000 00000000 00000000 00000000 0"},
		{1 << 49, 49, false, "00000000 00000000 00000000 00000000 00000000 00000000 0"},
	} {
		if got, code := impl.BitPut(x.v, x.size, x.little); got != row(x.want) || code != impl.OK {
			t.Error(x, digits(got), code)
		}
	}
}

func TestGetP3(t *testing.T) {
	r := rand.New(rand.NewSource(6))
	for size := range 50 {
		for from := range 18 {
			for _, end := range []int{0, 1, 7, 9} {
				s := anyDigits(r, from+size+end)
				for form := range 4 {
					signed, little := form&1 != 0, form&2 != 0
					got, code := impl.BitGet(row(s), from, size, signed, little)
					if got != getByWords(s[from:from+size], signed, little) || code != impl.OK {
						t.Fatal(s, from, size, signed, little, got, code)
					}
				}
			}
		}
	}
}

func TestGetWrittenOutP3(t *testing.T) {
	const low, high = "00000000 00000000 00000000 00000000 00000000 00000000 1", "10000000 00000000 00000000 00000000 00000000 00000000 0"
	for _, x := range []struct {
		s              string
		signed, little bool
		want           int
	}{
		{"", false, false, 0}, {"", true, true, 0},
		{"1", false, false, 1}, {"1", true, false, -1}, {"0", true, false, 0},
		{"011", true, false, 3}, {"100", true, false, -4}, {"101", true, true, -3}, {"101", false, false, 5},
		{"11111111", true, false, -1}, {"10000000", true, true, -128}, {"01111111", true, true, 127},
		{"00000001 1", true, true, -255}, {"00000001 1", false, true, 257}, {"10000000 0", true, true, 128}, {"10000000 0", true, false, -256},
		{"0010 0011 1001", true, true, 0x923 - 0x1000}, {"0010 0011 0001", true, true, 0x123},
		{low, false, false, 1}, {low, true, false, 1}, {low, false, true, 1 << 48}, {low, true, true, -1 << 48},
		{high, false, false, 1 << 48}, {high, true, false, -1 << 48}, {high, true, true, 128},
	} {
		b := row(x.s)
		if got, code := impl.BitGet(b, 0, b.Len, x.signed, x.little); got != x.want || code != impl.OK {
			t.Error(x, got, code)
		}
	}
	if got, code := impl.BitGet(ones(49), 0, 49, false, true); got != 1<<49-1 || code != impl.OK {
		t.Error(got, code)
	}
	if got, code := impl.BitGet(ones(32000), 31951, 49, true, false); got != -1 || code != impl.OK {
		t.Error(got, code)
	}
}

// What was put is got back: modulo 2 to the size, or as it was, when it fits.
func TestGetOfPutP3(t *testing.T) {
	for _, v := range edgeNumbers() {
		for size := range 50 {
			for _, little := range []bool{false, true} {
				b, _ := impl.BitPut(v, size, little)
				if got, code := impl.BitGet(b, 0, size, false, little); got != v&(1<<size-1) || code != impl.OK {
					t.Fatal(v, size, little, got, code)
				}
				got, code := impl.BitGet(b, 0, size, true, little)
				fits := size > 0 && v >= -1<<(size-1) && v < 1<<(size-1)
				if fits && got != v || code != impl.OK {
					t.Fatal(v, size, little, got, code)
				}
				if again, _ := impl.BitPut(got, size, little); again != b {
					t.Fatal(v, size, little, got)
				}
			}
		}
	}
}

func TestNumbersOfWrongSize(t *testing.T) {
	for _, size := range append(extremes(), -1, 50, 51, 64, 256) {
		for form := range 4 {
			signed, little := form&1 != 0, form&2 != 0
			if b, code := impl.BitPut(1, size, little); b != (impl.Bits{}) || code != impl.ErrBad {
				t.Error(size, b, code)
			}
			for _, from := range []int{0, 1, 400, size, -size} {
				if v, code := impl.BitGet(ones(400), from, size, signed, little); v != 0 || code != impl.ErrBad {
					t.Error(from, size, v, code)
				}
			}
		}
	}
}

func TestGetOfWhatIsNotThere(t *testing.T) {
	wrong := [][2]int{{-1, 0}, {-1, 1}, {-1, 9}, {-8, 8}, {0, 13}, {1, 12}, {11, 2}, {12, 1}, {13, 0}, {8, 8}, {16, 1}}
	for _, n := range extremes() {
		wrong = append(wrong, [2]int{n, 0}, [2]int{n, 1}, [2]int{n, 49})
	}
	for _, x := range wrong {
		for form := range 4 {
			if v, code := impl.BitGet(ones(12), x[0], x[1], form&1 != 0, form&2 != 0); v != 0 || code != impl.ErrBad {
				t.Error(x, v, code)
			}
		}
	}
	for _, x := range [][2]int{{0, 12}, {12, 0}, {11, 1}} {
		if _, code := impl.BitGet(ones(12), x[0], x[1], false, false); code != impl.OK {
			t.Error(x, code)
		}
	}
}
