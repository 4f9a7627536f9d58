package tests

import (
	"math/big"
	"math/rand"
	"strings"
	"testing"

	"loop.example/g00019/impl"
)

// row is the row of bits that digits 0 and 1 say; blanks between them are for the eye.
func row(digits string) impl.Bits {
	digits = strings.ReplaceAll(digits, " ", "")
	bytes := make([]byte, (len(digits)+7)/8)
	for i := range len(digits) {
		if digits[i] == '1' {
			bytes[i/8] += 128 >> (i % 8)
		}
	}
	return impl.Bits{Len: len(digits), Bytes: string(bytes)}
}

// digits is the bits of a row, one digit each.
func digits(b impl.Bits) string {
	var s strings.Builder
	for i := range b.Len {
		worth := byte(128 >> (i % 8))
		s.WriteByte('0' + b.Bytes[i/8]/worth%2)
	}
	return s.String()
}

// digitsOfText is the bits of all bytes of a text.
func digitsOfText(s string) string { return digits(impl.Bits{Len: 8 * len(s), Bytes: s}) }

// ones is a row of n bits, all 1.
func ones(n int) impl.Bits { return row(strings.Repeat("1", n)) }

// anyDigits is n digits by chance.
func anyDigits(r *rand.Rand, n int) string {
	s := make([]byte, n)
	for i := range s {
		s[i] = byte('0' + r.Intn(2))
	}
	return string(s)
}

// turned is digits with the highest first as they stand little, piece by piece from the lowest on.
func turned(s string) string {
	little := ""
	for len(s) > 8 {
		little += s[len(s)-8:]
		s = s[:len(s)-8]
	}
	return little + s
}

// turnedBack is little digits with the highest first.
func turnedBack(s string) string {
	high := ""
	for len(s) > 8 {
		high = s[:8] + high
		s = s[8:]
	}
	return s + high
}

// putByWords is BitPut as the document's words have it, for a size that there is.
func putByWords(v, size int, little bool) string {
	n := new(big.Int).Mod(big.NewInt(int64(v)), new(big.Int).Lsh(big.NewInt(1), uint(size)))
	s := n.Text(2)
	if size == 0 {
		s = ""
	}
	s = strings.Repeat("0", size-len(s)) + s
	if little {
		s = turned(s)
	}
	return s
}

// getByWords is BitGet of all digits.
func getByWords(s string, signed, little bool) int {
	if little {
		s = turnedBack(s)
	}
	n := 0
	for i := range len(s) {
		n = 2*n + int(s[i]-'0')
	}
	if signed && strings.HasPrefix(s, "1") {
		for limit := 1; ; limit *= 2 {
			if len(s) == 0 {
				return n - limit
			}
			s = s[1:]
		}
	}
	return n
}

// isSeg is whether a segment is one, whatever its V.
func isSeg(s impl.Seg) bool {
	if s.Unit < 1 || s.Unit > 256 || s.Size < -1 || s.Size > 32000 {
		return false
	}
	if s.Type == impl.SgInt {
		return s.Size != -1 && s.Size*s.Unit <= 49
	}
	return s.Type == impl.SgBin && !s.Signed && !s.Little
}

// buildByWords is BitBuild as the document's words have it.
func buildByWords(segs []impl.Seg) (string, int) {
	for _, s := range segs {
		if !isSeg(s) || !impl.TermOK(s.V) {
			return "", impl.ErrBad
		}
	}
	if len(segs) > 200 {
		return "", impl.ErrBad
	}
	all := ""
	for _, s := range segs {
		if s.Type == impl.SgInt && s.V.Kind != impl.TmInt || s.Type == impl.SgBin && s.V.Kind != impl.TmBin {
			return "", impl.ErrArg
		}
		if s.Type == impl.SgInt {
			all += putByWords(s.V.N, s.Size*s.Unit, s.Little)
		} else {
			have := digitsOfText(s.V.S)
			if s.Size == -1 && len(have)%s.Unit != 0 || s.Size != -1 && s.Size*s.Unit > len(have) {
				return "", impl.ErrArg
			}
			if s.Size != -1 {
				have = have[:s.Size*s.Unit]
			}
			all += have
		}
		if len(all) > 32000 {
			return "", impl.ErrFull
		}
	}
	return all, impl.OK
}

// matchByWords is BitMatch as the document's words have it.
func matchByWords(b impl.Bits, segs []impl.Seg) ([]impl.Term, int) {
	for i, s := range segs {
		if !isSeg(s) || s.Size == -1 && i != len(segs)-1 {
			return nil, impl.ErrBad
		}
	}
	if len(segs) > 200 || !impl.BitsOK(b) {
		return nil, impl.ErrBad
	}
	left := digits(b)
	var terms []impl.Term
	for _, s := range segs {
		width := s.Size * s.Unit
		if s.Size == -1 {
			width = len(left)
			if width%s.Unit != 0 {
				return nil, impl.ErrMatch
			}
		}
		if width > len(left) {
			return nil, impl.ErrMatch
		}
		if s.Type == impl.SgInt {
			terms = append(terms, num(getByWords(left[:width], s.Signed, s.Little)))
		} else {
			terms = append(terms, bin(row(left[:width]).Bytes))
		}
		left = left[width:]
	}
	if left != "" {
		return nil, impl.ErrMatch
	}
	return terms, impl.OK
}

// ints is a segment of an Int.
func ints(v, size int) impl.Seg {
	return impl.Seg{Type: impl.SgInt, Size: size, Unit: 1, V: num(v)}
}

// bins is a segment of a Bin.
func bins(s string, size, unit int) impl.Seg {
	return impl.Seg{Type: impl.SgBin, Size: size, Unit: unit, V: bin(s)}
}

// someSegs is n times a segment.
func someSegs(s impl.Seg, n int) []impl.Seg {
	segs := make([]impl.Seg, n)
	for i := range segs {
		segs[i] = s
	}
	return segs
}

func sameRow(a, b []impl.Term) bool { return same(list(a...), list(b...)) }

// wrongRows is rows of bits that are none, each with what is wrong about it.
func wrongRows() map[string]impl.Bits {
	return map[string]impl.Bits{
		"Len below 0":                    {Len: -1},
		"Len below 0, a byte":            {Len: -1, Bytes: "\x00"},
		"Len of -8":                      {Len: -8, Bytes: ""},
		"least Len":                      {Len: -1 << 63},
		"greatest Len":                   {Len: 1<<63 - 1},
		"32001 bits":                     {Len: 32001, Bytes: strings.Repeat("\x00", 4001)},
		"32008 bits":                     {Len: 32008, Bytes: strings.Repeat("\xff", 4001)},
		"a byte too many":                {Len: 8, Bytes: "ab"},
		"a byte too many, 0":             {Len: 8, Bytes: "a\x00"},
		"a byte of no bits":              {Len: 0, Bytes: "\x00"},
		"a byte too few":                 {Len: 9, Bytes: "a"},
		"no byte":                        {Len: 1, Bytes: ""},
		"a bit directly behind Len":      {Len: 3, Bytes: "\x10"},
		"the last bit behind Len":        {Len: 1, Bytes: "\x01"},
		"a bit behind 7":                 {Len: 7, Bytes: "\xff"},
		"a bit behind Len in the second": {Len: 15, Bytes: "\x00\x01"},
		"a bit behind 31999":             {Len: 31999, Bytes: strings.Repeat("\x00", 3999) + "\x01"},
	}
}

func TestConstantsOfBits(t *testing.T) {
	if impl.MaxBits != 32000 || impl.MaxField != 49 || impl.MaxSegs != 200 {
		t.Error("limits")
	}
	if impl.SgInt != 1 || impl.SgBin != 2 || impl.ErrArg != 5 || impl.ErrMatch != 6 {
		t.Error("types and codes")
	}
}

func TestHelpersOfBits(t *testing.T) {
	if b := row("101 00000 11"); b != (impl.Bits{Len: 10, Bytes: "\xa0\xc0"}) || digits(b) != "1010000011" {
		t.Error(b, digits(b))
	}
	if s := turned("000100100011"); s != "001000110001" || turnedBack(s) != "000100100011" {
		t.Error(s, turnedBack(s))
	}
	if s := putByWords(-3, 9, true); s != "111111011" || getByWords(s, true, true) != -3 || getByWords(s, false, true) != 509 {
		t.Error(s)
	}
}
