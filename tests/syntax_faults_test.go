package tests

import (
	"strings"
	"testing"

	"loop.example/g00019/impl"
)

// faultyAtMark asks for the first fault where § stands in a text.
func faultyAtMark(t *testing.T, marked string) {
	t.Helper()
	at := strings.Index(marked, "§")
	faulty(t, strings.Replace(marked, "§", "", 1), at)
}

func TestFaultsOfFormsP4(t *testing.T) {
	for _, text := range []string{
		"§", " \n% none§", "§f() -> 1.", "§Module m.", "§modul m.", "§.", "module§", "module §M.", "module §1.", `module §"m".`, "module §module.", "module §.", "module m§", "module m §m.", "module m§/1.", "module m§,", "module m%.§",
		"module m. §module m.", "module m. §X() -> 1.", "module m. §1.", "module m. §.", "module m. §end", `module m. §"f"() -> 1.`,
		"module m. export§", "module m. export §.", "module m. export §F/1.", "module m. export f§.", "module m. export f/§.", "module m. export f/§-1.", "module m. export f/§X.", "module m. export f/§01.", "module m. export f/1§", "module m. export f/1 §", "module m. export f/1 §g/1.", "module m. export f/1,§.", "module m. export f/1, §export g/1.", "module m. export f/1. §X", "module m. export f/1§; g/1.", "module m. f() -> 1. §export f/0.",
		"module m. f §-> 1.", "module m. f§.", "module m. f(§", "module m. f(§, X) -> 1.", "module m. f(X §Y) -> 1.", "module m. f(X,§) -> 1.", "module m. f(X§] -> 1.", "module m. f() §1.", "module m. f()§.", "module m. f() §= 1.", "module m. f() -> §.", "module m. f() ->§", "module m. f() -> 1§", "module m. f() -> 1%.§", "module m. f() -> 1 §2.", "module m. f() -> 1, §.", "module m. f() -> 1; §.", "module m. f() -> 1;§",
		"module m. f() when §-> 1.", "module m. f() when a§; b -> 1.", "module m. f() when a, §-> 1.", "module m. f() when a§.", "module m. f() -> 1 §when a.", "module m. f() -> 1. §; f() -> 2.", "module m. f() -> 1§) .",
	} {
		faultyAtMark(t, text)
	}
}

func TestFaultsOfClausesP4(t *testing.T) {
	for _, text := range []string{
		"module m. f() -> 1; §g() -> 2.", "module m. f() -> 1; f() -> 2; §g() -> 3.", "module m. f(X) -> 1; §f() -> 2.", "module m. f() -> 1; §f(X) -> 2.", "module m. f(X) -> 1; §f(X, Y) -> 2.", "module m. f() -> 1; f() -> 2; §f(X) -> 3.", "module m. f() -> 1; §ff() -> 2.", "module m. f() -> 1; §F() -> 2.",
		"module m. f() -> 1; §g", "module m. f() -> 1; §g $", "module m. f() -> 1; §g(X) -> 2.", "module m. f() -> 1; §f(X)", "module m. f() -> 1; §f(X) $", "module m. f() -> 1; §f(X) 01 )",
		"module m. f() -> 1; f(X§", "module m. f() -> 1; f(X §", "module m. f() -> 1; f(X, §$) -> 2.", "module m. f() -> 1; f(X §Y) -> 2.", "module m. f() -> 1; f(X, §) -> 2.", "module m. f() -> 1; f(§01) -> 2.", "module m. f(X, Y) -> 1; f({X, §-> ) -> 2.",
		"module m. f() -> 1; §f({fun() -> 1; () -> 2 end}) -> 2.", "module m. f() -> 1; f(fun() -> 1; §(X) -> 2 end) -> 2.", "module m. f() -> 1. g(X) -> 1; §f(X) -> 1.",
		ahead + "fun() -> 1; §(X) -> 2 end.", ahead + "fun(X) -> 1; §() -> 2 end.", ahead + "fun(X) -> 1; (Y) -> 2; §(X, Y) -> 3 end.", ahead + "fun(X) -> 1; §(X, Y) $", ahead + "fun(X) -> 1; (X, §$) -> 2 end.", ahead + "fun(X) -> 1; §f(X) -> 2 end.", ahead + "fun(X) -> fun() -> 1; §(X) -> 2 end; () -> 2 end.", ahead + "fun(X) -> fun() -> 1 end; §() -> 2 end.",
		ahead + "fun(X) -> 1; §({Y, (Z)}, [1, 2]) -> 2 end.",
	} {
		faultyAtMark(t, text)
	}
	parsed(t, "module m. f(X, Y) -> fun(X) -> 1; (Y) -> fun() -> 1 end end; f({X, Y}, [X, Y, Z]) -> 2. f() -> 1; f() -> 2.")
}

func TestFaultsOfExpressionsP4(t *testing.T) {
	for _, text := range []string{
		"§)", "§]", "§}", "§>>", "§,", "§;", "§|", "§||", "§<-", "§->", "§:", "§/", "§+ 1", "§* 1", "§=>", "§:=", "§= 1", "§! 1", "§== 1", "§end", "§of", "§when", "§after", "§catch", "§and", "§rem", "§export", "§module",
		"1 §:= 2.", "a §<- b.", "X §| Y.", "X §|| Y.", "X§=> Y.", "1§/ 2.", "X§: Y.", "a:§X.", "a:b§.", "a:b §X.", "a:b§:c().", "a:§1().", "1§:f().", "(a)§:f().", "X§:f().", "- §.", "not §.", "1 + §.", "1 + §* 2.", "1 - §, 2.", "a §not b.", "a ++ §.", "a orelse §orelse b.",
		"1 < 2 §< 3.", "1 == 2 §/= 3.", "1 < 2 ++ 3 §> 4.", "(1 < 2 §< 3) .", "1 < 2 andalso 3 < 4 §< 5.", "a = 1 < 2 §< 3.",
		"(§).", "(1§.", "(1§, 2).", "(1 §2).", "(1§] .", "{1 §2}.", "{1,§}.", "{§,}.", "{1§].", "{1§| 2}.", "{1§", "f(1,§).", "f(1§].", "f(1§", "X(1§", "X(1,§).",
		"[§|1].", "[1|§].", "[1|2§|3].", "[1|2§,3].", "[1,§].", "[1,§|2].", "[1,2 §|| X <- L].", "[1|2 §|| X <- L].", "[1 ||§].", "[1 || X <-§].", "[1 || X <- L§", "[1 || X <- L§| 2].", "[1 || X <- L§; 2].", "[1 || X <- L,§].", "[1 || X <- L §<- M].", "[1 || X <- L §|| Y].", "[1 §<- L].", "[1§}.", "[1§",
		"#{§,}.", "#{a§}.", "#{a§, b => c}.", "#{a§|b}.", "#{a => §}.", "#{a => b,§}.", "#{a => b, §| c}.", "#{a => b, c§}.", "#{a => b | c§, d => e}.", "#{a => b | c §| d}.", "#{|§}.", "#{| a §=> b}.", "#{a §:= b}.", "#{a => b §=> c}.", "#{a => b§].", "#{§",
	} {
		faultyAtMark(t, ahead+text)
	}
}

func TestFaultsOfSegmentsP4(t *testing.T) {
	for _, text := range []string{
		"<<§a>>.", "<<§-1>>.", "<<§{}>>.", "<<§f(1)>>.", "<<§,1>>.", "<<1,§>>.", "<<1 §2>>.", "<<1 §+ 2>>.", "<<X§(1)>>.", "<<(X)§(1)>>.", "<<(X§>>.", "<<(§)>>.", "<<1:§>>.", "<<1:§a>>.", "<<1:§-1>>.", "<<1:2§:3>>.", "<<1§", "<<§", "<<1§].", "<<1 §> >.", "<<1§|2>>.", "<<1§;2>>.", "<<X §= 1>>.",
		"<<1/§>>.", "<<1/§X>>.", "<<1/§8>>.", "<<1/int/§>>.", "<<1/§a>>.", "<<1/§integer>>.", "<<1/§end>>.", "<<1/§signed2>>.", "<<1/int§:8>>.", "<<1/little §/= 2>>.", "<<1/int §little>>.", "<<1/signed§(1)>>.",
		"<<1/int/§int>>.", "<<1/signed/§signed>>.", "<<1/little/§little>>.", "<<1/binary/§binary>>.", "<<1/bits/§bits>>.", "<<1/int/§binary>>.", "<<1/binary/§int>>.", "<<1/signed/§binary>>.", "<<1/binary/§signed>>.", "<<1/little/§binary>>.", "<<1/binary/§little>>.", "<<1/int/§bits>>.", "<<1/bits/§int>>.", "<<1/signed/§bits>>.", "<<1/bits/§signed>>.", "<<1/little/§bits>>.", "<<1/bits/§little>>.", "<<1/binary/bits/§int>>.", "<<1/bits/binary/§bits>>.", "<<1/int/signed/little/§int>>.", "<<1/int/signed/little/§a>>.", "<<1/int/signed/little/§8>>.", "<<1/binary/bits/§signed>>.", "<<1/bits/§a>>.",
		"<<1/bits§>>.", "<<1/bits§,2>>.", "<<1/bits §|| X>>.", "<<1/bits §$", "<<1/bits§", "<<1/bits §", "<<1/bits §binary>>.", "<<1/bits/§", "<<1/bits/§1>>.", "<<1, 2/bits§, 3/binary/int>>.",
		"<<1, 2 §|| X>>.", "<<1 ||§>>.", "<<1 || <<X>> <-§>>.", "<<1 || X§].", "<<1 || X,§>>.", "<<1 || X <- Y§/int>>.",
	} {
		faultyAtMark(t, ahead+text)
	}
}

func TestFaultsOfBlocksP4(t *testing.T) {
	for _, text := range []string{
		"fun §X/1.", "fun §.", "fun f§.", "fun f§(1) -> 1 end.", "fun f/§a.", "fun f/§X.", "fun§", "fun f/§1000000000000001.", "fun m§:f/1.", "fun(§", "fun(X §-> 1 end.", "fun() §1 end.", "fun() -> §end.", "fun() -> 1§.", "fun() -> 1; §end.", "fun() when §-> 1 end.", "fun() -> 1 §after 2 end.", "fun() -> 1§", "fun() -> 1 end§",
		"case §of 1 -> 2 end.", "case 1 §2 of 1 -> 2 end.", "case 1§, 2 of 1 -> 2 end.", "case 1 of §end.", "case 1 of 1 §end.", "case 1 of 1 -> §end.", "case 1 of 1 -> 2; §end.", "case 1 of 1§, 2 -> 3 end.", "case 1 of 1 when §-> 2 end.", "case 1 of 1 -> 2 §after 3 -> 4 end.", "case 1 of 1 -> 2§.", "case 1§", "case 1 of 1 -> 2 end §end.", "case 1 of (1) §2 -> 3 end.", "case 1 of 1 -> 2 §1 -> 2 end.",
		"receive §-> 1 end.", "receive 1 §end.", "receive 1 -> 2; §after 3 -> 4 end.", "receive 1 -> 2; §end.", "receive after §-> 1 end.", "receive after 1 §end.", "receive after 1§, 2 -> 3 end.", "receive after 1 §when a -> 2 end.", "receive after 1 -> §end.", "receive after 1 -> 2§; 3 -> 4 end.", "receive after 1 -> 2 §after 3 -> 4 end.", "receive§", "receive end§", "receive 1§:2 -> 3 end.", "receive §of 1 -> 2 end.",
		"try §catch X:Y -> 1 end.", "try 1 §end.", "try 1 §after 2 end.", "try 1 §of 2 -> 3 catch X:Y -> 1 end.", "try 1§; 2 catch X:Y -> 1 end.", "try 1 catch §end.", "try 1 catch §after 1 end.", "try 1 catch X §-> 1 end.", "try 1 catch §1:X -> 1 end.", `try 1 catch §"error":X -> 1 end.`, "try 1 catch §(X):Y -> 1 end.", "try 1 catch §{X}:Y -> 1 end.", "try 1 catch X:§-> 1 end.", "try 1 catch X:Y§, Z -> 1 end.", "try 1 catch X:Y§:Z -> 1 end.", "try 1 catch a§(1):Z -> 1 end.", "try 1 catch X:Y -> 1; Z §-> 2 end.", "try 1 catch X:Y -> 1; §end.", "try 1 catch X:Y -> 1 after §end.", "try 1 catch X:Y -> 1 after 2 §-> 3 end.", "try 1 catch X:Y -> 1 after 2§; 3 end.", "try 1 catch X:Y -> 1§.", "try 1 catch X:Y -> 1 end §catch X:Y -> 1 end.", "try§",
		"begin §end.", "begin 1§.", "begin 1, §end.", "begin 1§; 2 end.", "begin 1§", "begin 1 end§", "begin 1 end §2.", "1 §end.",
	} {
		faultyAtMark(t, ahead+text)
	}
}

// TestFirstOfTwoFaultsP4 puts a fault behind one: the first one is told. It puts one ahead of it, too: then that one is.
func TestFirstOfTwoFaultsP4(t *testing.T) {
	for _, first := range []string{"01", "$", `"`, "1 2", "(", ", ]", "<<1/bits>>", "<<1/a>>", "fun() -> 1; (X) -> 2 end", "1 < 2 < 3", "case 1 of end", "end"} {
		alone := ahead + first + "."
		_, code, at := impl.Parse(alone)
		if code != impl.ErrText {
			t.Error(first, code)
		}
		for _, second := range []string{"01", "$", "f() -> 1; g() -> 2.", "\"", ", , .", "end", "module m.", "\xff", strings.Repeat("[", 3000)} {
			if first == "(" || first == `"` {
				break // what comes behind these decides where they fail
			}
			faulty(t, alone+second, at)
			faulty(t, alone+" "+second, at)
		}
		for _, ahead := range []string{"§$ ", "§01 ", "module m. §. ", "module m. f(§] ", "module m. f() -> 1; §g() -> 2. ", "module m. f() -> 1; §f(X) -> 2. ", "module m. f() -> <<1/bits§, "} {
			faultyAtMark(t, ahead+alone)
			faultyAtMark(t, ahead+first)
		}
	}
	faultyAtMark(t, "module m. f() -> (§] $.")
	faultyAtMark(t, "module m. f() -> 1 §1 01.")
	faultyAtMark(t, "module m. f() -> §01 1 1.")
	faultyAtMark(t, "module m. f() -> {1 %$ 01 ]\n§] $.")
}
