package tests

import (
	"fmt"
	"strings"
	"testing"

	"loop.example/g00019/impl"
)

// taking is a block in which bits of its argument are taken from a mark on; when that fails, all that there was is answered in a list.
func taking(mark, size, flags, kind string) string {
	if size == "" {
		return "Push " + mark + "; Take no 2 " + flags + " " + kind + "; Tuple 3; Return\nno: List 2; Return"
	}
	return "Push " + mark + "; Push " + size + "; Take no 3 " + flags + " " + kind + "; Tuple 3; Return\nno: List 3; Return"
}

// P8: numbers and binaries are taken out of bits.
func TestBitsAreTakenP8(t *testing.T) {
	for _, x := range []struct{ mark, size, flags, kind, bin, want string }{
		{"0", "4", "0", "int", "<<18>>", "{<<18>>, 4, 1}"}, {"4", "4", "0", "int", "<<18>>", "{<<18>>, 8, 2}"}, {"3", "4", "0", "int", "<<18>>", "{<<18>>, 7, 9}"}, {"0", "8", "0", "int", "<<255>>", "{<<255>>, 8, 255}"}, {"0", "8", "1", "int", "<<255>>", "{<<255>>, 8, -1}"}, {"1", "7", "1", "int", "<<127>>", "{<<127>>, 8, -1}"},
		{"0", "16", "0", "int", "<<1, 2>>", "{<<1, 2>>, 16, 258}"}, {"0", "16", "2", "int", "<<1, 2>>", "{<<1, 2>>, 16, 513}"}, {"0", "16", "3", "int", "<<1, 255>>", "{<<1, 255>>, 16, -255}"}, {"4", "12", "2", "int", "<<1, 2>>", "{<<1, 2>>, 16, 528}"},
		{"0", "", "8", "int", "<<7, 8>>", "{<<7, 8>>, 8, 7}"}, {"8", "", "9", "int", "<<7, 255>>", "{<<7, 255>>, 16, -1}"}, {"4", "", "10", "int", "<<7, 255>>", "{<<7, 255>>, 12, 127}"}, {"9", "", "8", "int", "<<7, 255>>", "[<<7, 255>>, 9]"},
		{"0", "0", "0", "int", "<<>>", "{<<>>, 0, 0}"}, {"8", "0", "1", "int", "<<1>>", "{<<1>>, 8, 0}"}, {"0", "49", "0", "int", "<<255, 255, 255, 255, 255, 255, 255>>", "{<<255, 255, 255, 255, 255, 255, 255>>, 49, 562949953421311}"}, {"0", "50", "0", "int", "<<255, 255, 255, 255, 255, 255, 255>>", "[<<255, 255, 255, 255, 255, 255, 255>>, 0, 50]"},
		{"0", "9", "0", "int", "<<1>>", "[<<1>>, 0, 9]"}, {"1", "8", "0", "int", "<<1>>", "[<<1>>, 1, 8]"}, {"0", "-1", "0", "int", "<<1>>", "[<<1>>, 0, -1]"}, {"0", "a", "0", "int", "<<1>>", "[<<1>>, 0, a]"}, {"0", "<<8>>", "0", "int", "<<1>>", "[<<1>>, 0, <<8>>]"}, {"0", "1000000000000000", "0", "int", "<<1>>", "[<<1>>, 0, 1000000000000000]"},
		{"0", "1", "0", "binary", "<<1, 2>>", "{<<1, 2>>, 8, <<1>>}"}, {"4", "1", "0", "binary", "<<1, 2>>", "{<<1, 2>>, 12, <<16>>}"}, {"8", "2", "0", "binary", "<<1, 2>>", "[<<1, 2>>, 8, 2]"}, {"0", "0", "0", "binary", "<<1, 2>>", "{<<1, 2>>, 0, <<>>}"}, {"16", "0", "0", "binary", "<<1, 2>>", "{<<1, 2>>, 16, <<>>}"},
		{"0", "12", "4", "binary", "<<1, 255>>", "{<<1, 255>>, 12, <<1, 240>>}"}, {"3", "5", "4", "binary", "<<7>>", "{<<7>>, 8, <<56>>}"}, {"0", "17", "4", "binary", "<<1, 255>>", "[<<1, 255>>, 0, 17]"}, {"0", "-1", "4", "binary", "<<1>>", "[<<1>>, 0, -1]"}, {"0", "-1", "0", "binary", "<<1>>", "[<<1>>, 0, -1]"}, {"0", "a", "4", "binary", "<<1>>", "[<<1>>, 0, a]"},
		{"0", "", "8", "binary", "<<1, 2>>", "{<<1, 2>>, 16, <<1, 2>>}"}, {"8", "", "8", "binary", "<<1, 2>>", "{<<1, 2>>, 16, <<2>>}"}, {"16", "", "8", "binary", "<<1, 2>>", "{<<1, 2>>, 16, <<>>}"}, {"4", "", "8", "binary", "<<1, 2>>", "[<<1, 2>>, 4]"}, {"4", "", "12", "binary", "<<1, 2>>", "{<<1, 2>>, 16, <<16, 32>>}"},
		// No Bin, or no mark in it: ahead of all that the size is.
		{"17", "0", "0", "int", "<<1, 2>>", "error bad_code"}, {"-1", "0", "0", "int", "<<1, 2>>", "error bad_code"}, {"a", "a", "0", "int", "<<1, 2>>", "error bad_code"}, {"<<>>", "1", "0", "int", "<<1, 2>>", "error bad_code"}, {"0", "0", "0", "int", "[1]", "error bad_code"}, {"0", "a", "0", "binary", "a", "error bad_code"}, {"0", "", "8", "int", "0", "error bad_code"}, {"9", "", "8", "binary", "<<1>>", "error bad_code"}, {"1", "", "12", "binary", "<<>>", "error bad_code"}, {"9", "50", "0", "int", "<<1>>", "error bad_code"},
	} {
		eachDoes(t, doing{taking(x.mark, x.size, x.flags, x.kind), x.bin, x.want, 0})
	}
	// What lies below stays, and B may be lower.
	eachFits(t, "Push <<5, 6>>; Push 8; Take no 1 8 int; Tuple 4; Return\nno: Return", "a -> {a, <<5, 6>>, 16, 6}")
	eachFits(t, "Push <<5, 6>>; Push 9; Take no 1 8 int; Tuple 4; Return\nno: Return", "a -> a")
	eachFits(t, "Push 16; Push 2; Take no 0 0 binary; Tuple 3; Return\nno: Push no; Return", "<<1, 2>> -> no")
	eachFits(t, "Push 8; End no 0; Push yes; Return\nno: Push no; Return", "<<1>> -> yes", "<<1, 2>> -> no", "<<>> -> error bad_code", "a -> error bad_code", "[] -> error bad_code")
	eachFits(t, "Push 0; End no 2; Push yes; Return\nno: Tuple 2; Return", "<<>> -> yes", "<<1>> -> {<<1>>, 0}", "{} -> error bad_code")
	for mark, want := range map[string]string{"0": "<<1>>", "7": "<<1>>", "8": "yes", "9": "error bad_code", "-1": "error bad_code", "a": "error bad_code", "<<1>>": "error bad_code"} {
		eachDoes(t, doing{"Push " + mark + "; End no 1; Push yes; Return\nno: Return", "<<1>>", want, 0})
	}
	// The widest of all, as long as a Bin may be.
	full := bin(strings.Repeat("x", 4000))
	runs(t, "f/1 0: Push 0; Push 32000; Take no 1 4 binary; Dup; Pick 0; Operate ==; Tuple 4; Fail 0 a\nno: Fail 0 no", "error a", 1, full)
	runs(t, "f/1 0: Push 0; Push 32001; Take no 1 4 binary; Fail 0 a\nno: Fail 0 no", "error no", 1, full)
	runs(t, "f/1 0: Push 0; Push 4000; Take no 1 0 binary; Pick 0; Operate ==; Fail 1 a\nno: Fail 0 no", "error {a, true}", 1, full)
	runs(t, "f/1 0: Push 0; Push 4001; Take no 1 0 binary; Fail 0 a\nno: Fail 0 no", "error no", 1, full)
	runs(t, "f/1 0: Push 32000; End no 1; Push end; Return\nno: Return", "end", 1, full)
	runs(t, "f/1 0: Push 32001; End no 1; Push end; Return\nno: Return", "error bad_code", 1, full)
}

// P8: the lower mark comes to where the upper one is, unless it is there already.
func TestMarksAreMovedP8(t *testing.T) {
	for _, x := range []struct{ low, bin, high, want string }{
		{"0", "<<1, 2>>", "8", "{a, 8}"}, {"8", "<<1, 2>>", "0", "{a, 0}"}, {"3", "<<1, 2>>", "16", "{a, 16}"}, {"8", "<<1, 2>>", "8", "[a, 8, <<1, 2>>, 8]"}, {"0", "<<>>", "0", "[a, 0, <<>>, 0]"},
		{"0", "<<1, 2>>", "17", "error bad_code"}, {"0", "<<1, 2>>", "-1", "error bad_code"}, {"0", "<<1, 2>>", "b", "error bad_code"}, {"17", "<<1, 2>>", "8", "error bad_code"}, {"-1", "<<1, 2>>", "8", "error bad_code"}, {"b", "<<1, 2>>", "8", "error bad_code"}, {"b", "<<1, 2>>", "b", "error bad_code"}, {"<<>>", "<<1, 2>>", "8", "error bad_code"}, {"0", "[1, 2]", "1", "error bad_code"}, {"0", "0", "0", "error bad_code"}, {"17", "<<1, 2>>", "17", "error bad_code"},
	} {
		eachDoes(t, doing{fmt.Sprintf("Push %s; Push %s; Push %s; Took no 4; Tuple 2; Return\nno: List 4; Return", x.low, x.bin, x.high), "a", x.want, 0})
	}
	eachFits(t, "Push 1; Push <<1>>; Push 1; Took no 1; Tuple 2; Return\nno: Return", "a -> a")
	eachFits(t, "Push 1; Push <<1>>; Push 1; Took no 0; Tuple 2; Return\nno: Push no; Return", "a -> no")
}

// putting is a block in which its argument is put behind a row.
func putting(row, count, size, flags, kind string) string {
	if size != "" {
		size = "Push " + size + "; "
	}
	return "Push " + row + "; Push " + count + "; Pick 0; " + size + "Put " + flags + " " + kind + "; Tuple 3; Return"
}

// P8: bits are put behind rows.
func TestBitsArePutP8(t *testing.T) {
	eachFits(t, "Row; Tuple 3; Return", "a -> {a, <<>>, 0}")
	for _, x := range []struct{ row, count, size, flags, kind, v, want string }{
		{"<<>>", "0", "4", "0", "int", "17", "<<16>>, 4"}, {"<<16>>", "4", "4", "0", "int", "17", "<<17>>, 8"}, {"<<16>>", "4", "8", "0", "int", "-1", "<<31, 240>>, 12"}, {"<<1>>", "8", "16", "2", "int", "258", "<<1, 2, 1>>, 24"}, {"<<1>>", "8", "16", "3", "int", "-2", "<<1, 254, 255>>, 24"}, {"<<1>>", "8", "0", "0", "int", "5", "<<1>>, 8"}, {"<<>>", "0", "49", "1", "int", "-1", "<<255, 255, 255, 255, 255, 255, 128>>, 49"},
		{"<<1>>", "8", "", "8", "int", "258", "<<1, 2>>, 16"}, {"<<128>>", "1", "", "10", "int", "1", "<<128, 128>>, 9"},
		{"<<1>>", "8", "", "24", "int", "[2, 258]", "<<1, 2, 2>>, 24"}, {"<<1>>", "8", "4", "16", "int", "[1, 2, 3]", "<<1, 18, 48>>, 20"}, {"<<1>>", "8", "16", "18", "int", "[1]", "<<1, 1, 0>>, 24"}, {"<<1>>", "8", "16", "16", "int", "[]", "<<1>>, 8"},
		{"<<1>>", "8", "1", "0", "binary", "<<2, 3>>", "<<1, 2>>, 16"}, {"<<16>>", "4", "1", "0", "binary", "<<2, 3>>", "<<16, 32>>, 12"}, {"<<1>>", "8", "", "8", "binary", "<<2, 3>>", "<<1, 2, 3>>, 24"}, {"<<16>>", "4", "", "12", "binary", "<<2, 3>>", "<<16, 32, 48>>, 20"}, {"<<1>>", "8", "3", "4", "binary", "<<255>>", "<<1, 224>>, 11"}, {"<<1>>", "8", "0", "0", "binary", "<<>>", "<<1>>, 8"},
		// What no segment can be made of.
		{"<<>>", "0", "8", "0", "int", "a", "badarg"}, {"<<>>", "0", "8", "0", "int", "[1]", "badarg"}, {"<<>>", "0", "8", "0", "int", "<<1>>", "badarg"}, {"<<>>", "0", "8", "16", "int", "[1, a]", "badarg"}, {"<<>>", "0", "8", "16", "int", "[<<1>>]", "badarg"}, {"<<>>", "0", "2", "0", "binary", "<<1>>", "badarg"}, {"<<>>", "0", "9", "4", "binary", "<<1>>", "badarg"}, {"<<>>", "0", "1", "0", "binary", "1", "badarg"}, {"<<>>", "0", "", "8", "binary", "[1]", "badarg"},
		{"<<>>", "0", "50", "0", "int", "1", "badarg"}, {"<<>>", "0", "-1", "0", "int", "1", "badarg"}, {"<<>>", "0", "a", "0", "int", "1", "badarg"}, {"<<>>", "0", "-1", "0", "binary", "<<>>", "badarg"}, {"<<>>", "0", "32001", "4", "binary", "<<>>", "badarg"}, {"<<>>", "0", "50", "16", "int", "[]", "badarg"}, {"<<>>", "0", "-1", "16", "int", "[]", "badarg"}, {"<<>>", "0", "a", "16", "int", "[]", "badarg"},
		// No row, ahead of all else; then, where a List has to be, none.
		{"[]", "0", "8", "0", "int", "1", "bad_code"}, {"<<>>", "1", "8", "0", "int", "1", "bad_code"}, {"<<1>>", "0", "8", "0", "int", "1", "bad_code"}, {"<<1>>", "9", "8", "0", "int", "1", "bad_code"}, {"<<1>>", "7", "8", "0", "int", "1", "bad_code"}, {"<<2>>", "7", "8", "0", "int", "1", "<<2, 2>>, 15"}, {"<<1, 0>>", "8", "8", "0", "int", "1", "bad_code"}, {"<<>>", "a", "8", "0", "int", "1", "bad_code"}, {"<<>>", "<<>>", "8", "0", "int", "1", "bad_code"}, {"<<>>", "-1", "8", "0", "int", "1", "bad_code"}, {"0", "<<>>", "8", "0", "int", "1", "bad_code"},
		{"a", "0", "50", "0", "int", "a", "bad_code"}, {"<<>>", "1", "a", "0", "binary", "a", "bad_code"}, {"<<>>", "0", "8", "16", "int", "1", "bad_code"}, {"<<>>", "0", "8", "16", "int", "<<1>>", "bad_code"}, {"<<>>", "0", "8", "16", "int", "{1}", "bad_code"}, {"<<>>", "0", "a", "16", "int", "a", "bad_code"}, {"<<>>", "0", "50", "16", "int", "1", "bad_code"}, {"<<>>", "0", "", "24", "int", "1", "bad_code"}, {"<<>>", "1", "8", "16", "int", "1", "bad_code"},
	} {
		want := "error " + x.want
		if strings.Contains(x.want, "<") {
			want = "{" + x.v + ", " + x.want + "}"
		}
		eachDoes(t, doing{putting(x.row, x.count, x.size, x.flags, x.kind), x.v, want, 0})
	}
}

// P8: rows of as many bits as there may be, and one more.
func TestLongRowsP8(t *testing.T) {
	full := bin(strings.Repeat("x", 3999) + "\x00")
	for _, x := range []struct{ body, want string }{
		{"Push 32000; Push 5; Push 0; Put 0 int", "32000"}, {"Push 31999; Push 5; Push 1; Put 0 int", "32000"}, {"Push 31997; Push [1, 0, 1]; Push 1; Put 16 int", "32000"}, {"Push 31993; Push 5; Push 7; Put 0 int", "32000"}, {"Push 31999; Push <<255>>; Push 1; Put 4 binary", "32000"}, {"Push 32000; Push <<>>; Put 8 binary", "32000"}, {"Push 32000; Row; Join 0", "32000"}, {"Push 31999; Push <<128>>; Push 1; Join 0", "32000"},
		{"Push 32000; Push 5; Push 1; Put 0 int", ""}, {"Push 31999; Push 5; Push 2; Put 0 int", ""}, {"Push 31998; Push [1, 0, 1]; Push 1; Put 16 int", ""}, {"Push 31993; Push 5; Put 8 int", ""}, {"Push 31999; Push <<255>>; Push 2; Put 4 binary", ""}, {"Push 32000; Push <<1>>; Put 8 binary", ""}, {"Push 32000; Push <<128>>; Push 1; Join 0", ""}, {"Push 31999; Push <<128>>; Push 2; Join 0", ""}, {"Push 32000; Pick 0; Pick 1; Join 0", ""},
	} {
		a := ran(t, codeOf("f/1 0: "+x.body+"; Tuple 2; Return"), full)
		switch {
		case x.want == "" && (shown(a) != "error badarg" || a.Used != 1):
			t.Error(x.body, a.Class, a.Used)
		case x.want != "" && (a.Class != impl.AnValue || len(a.V.Kids[0].S) != 4000 || a.V.Kids[1].N != 32000):
			t.Error(x.body, a.Class, a.V.Kids)
		}
	}
	for text, want := range map[string]impl.Answer{
		"Push 32000; Whole; Return":                                       {V: full, Used: 1},
		"Push 31992; Whole; Return":                                       {Class: impl.AnError, V: atom("bad_code"), Used: 1},
		"Push 31999; Whole; Return":                                       {Class: impl.AnError, V: atom("badarg"), Used: 1},
		"Push 32001; Whole; Return":                                       {Class: impl.AnError, V: atom("bad_code"), Used: 1},
		"Row; Pick 0; Put 8 binary; Whole; Store 0; Drop; Load 0; Return": {V: full, Used: 1},
	} {
		if a := ran(t, codeOf("f/1 1: "+text), full); !sameAnswer(a, want) {
			t.Error(text, shown(a), a.Used)
		}
	}
}

// P8: rows become Bins, or are put behind others.
func TestRowsAreTakenP8(t *testing.T) {
	for count, want := range map[string]string{"16": "<<1, 128>>", "9": "error badarg", "12": "error badarg", "15": "error badarg", "8": "error bad_code", "17": "error bad_code", "0": "error bad_code", "-1": "error bad_code", "a": "error bad_code", "<<>>": "error bad_code"} {
		eachDoes(t, doing{"Push " + count + "; Whole; Return", "<<1, 128>>", want, 0})
	}
	eachFits(t, "Push 0; Whole; Return", "<<>> -> <<>>", "<<1>> -> error bad_code", "[] -> error bad_code", "a -> error bad_code", "0 -> error bad_code")
	eachFits(t, "Push 7; Whole; Return", "<<2>> -> error badarg", "<<1>> -> error bad_code", "<<>> -> error bad_code")
	for _, x := range []struct{ under, count, row, more, want string }{
		{"<<1>>", "8", "<<2>>", "8", "{a, <<1, 2>>, 16, b}"}, {"<<16>>", "4", "<<32>>", "3", "{a, <<18>>, 7, b}"}, {"<<>>", "0", "<<>>", "0", "{a, <<>>, 0, b}"}, {"<<16>>", "4", "<<255, 128>>", "9", "{a, <<31, 248>>, 13, b}"},
		{"<<1>>", "8", "<<2>>", "6", "error bad_code"}, {"<<1>>", "8", "<<2>>", "9", "error bad_code"}, {"<<1>>", "8", "[]", "0", "error bad_code"}, {"<<1>>", "8", "<<>>", "a", "error bad_code"}, {"<<1>>", "7", "<<>>", "0", "error bad_code"}, {"<<1>>", "9", "<<>>", "0", "error bad_code"}, {"[]", "0", "<<>>", "0", "error bad_code"}, {"<<>>", "[]", "<<>>", "0", "error bad_code"}, {"0", "<<>>", "<<>>", "0", "error bad_code"},
	} {
		eachDoes(t, doing{fmt.Sprintf("Push %s; Push %s; Push b; Push %s; Push %s; Join 1; Tuple 4; Return", x.under, x.count, x.row, x.more), "a", x.want, 0})
	}
	// A row that is no row is looked for ahead of what would be too long.
	full := bin(strings.Repeat("x", 4000))
	runs(t, "f/1 0: Push 32000; Pick 0; Push 31992; Join 0; Fail 0 a", "error bad_code", 1, full)
	runs(t, "f/1 0: Push 31992; Pick 0; Push 32000; Join 0; Fail 0 a", "error bad_code", 1, full)
	// Who has the row elsewhere keeps it.
	eachFits(t, "Push 8; Pick 0; Pick 1; Row; Push 7; Put 8 int; Join 0; Tuple 4; Return", "<<1>> -> {<<1, 7>>, 16, <<1>>, 8}")
	eachFits(t, "Push 1; Pick 0; Pick 1; Push 5; Push 7; Put 0 int; Tuple 4; Return", "<<128>> -> {<<128>>, 1, <<133>>, 8}")
}
