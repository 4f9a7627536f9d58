package tests

import (
	"regexp"
	"strings"
	"testing"

	"loop.example/g00019/impl"
)

// A second reader of terms' texts, made of expressions for words and of the words that may stand next; it
// tells only where a text is wrong. It is held against TermRead on all short texts.

var (
	wordRun   = regexp.MustCompile(`^(#[rpf]|-)?[A-Za-z0-9_]+`)
	nameForm  = regexp.MustCompile(`^[a-z][A-Za-z0-9_]{0,29}$`)
	countForm = regexp.MustCompile(`^(#[rpf])?(0|[1-9][0-9]{0,14}|10{15})$`)
	belowForm = regexp.MustCompile(`^-([1-9][0-9]{0,14}|10{15})$`)
	signForm  = regexp.MustCompile(`^(#\{|\{|\}|\[|\]|<<|>>|,|=>)`)
)

// secondWord is the first word of a text and what sort it is: a name, a count, a number below 0, r, p, f,
// a sign itself, or "" for what is none.
func secondWord(s string) (string, string) {
	if w := signForm.FindString(s); w != "" {
		return w, w
	}
	w := wordRun.FindString(s)
	switch {
	case nameForm.MatchString(w):
		return w, "name"
	case belowForm.MatchString(w):
		return w, "below"
	case countForm.MatchString(w) && w[0] == '#':
		return w, w[1:2]
	case countForm.MatchString(w):
		return w, "count"
	}
	return w, ""
}

// secondRead tells where a text is wrong, or -1.
func secondRead(s string) int {
	stack := "" // what is open: ( for the whole, { [ m (before =>) M (behind it) and <
	wants := "term"
	at := 0
	for {
		at += len(s[at:]) - len(strings.TrimLeft(s[at:], " \n"))
		if at == len(s) {
			if wants == "end" {
				return -1
			}
			return at
		}
		w, sort := secondWord(s[at:])
		var ok bool
		if stack, wants, ok = secondStep(stack, wants, w, sort); !ok {
			return at
		}
		at += len(w)
	}
}

// secondStep is what is open and what is wanted behind a word, and whether it may stand there.
func secondStep(stack, wants, w, sort string) (string, string, bool) {
	top := ""
	if stack != "" {
		top = stack[len(stack)-1:]
	}
	closes := map[string]string{"{": "}", "[": "]", "m": "}", "M": "}", "<": ">>"}[top]
	isTerm := wants == "term" || wants == "first"
	switch {
	case wants == "fun":
		return stack + "{", "first", w == "{"
	case wants == "arrow":
		return stack[:len(stack)-1] + "M", "term", w == "=>"
	case isTerm && top == "<" && sort == "count" && (len(w) < 3 || len(w) == 3 && w <= "255"):
		return stack, "more", true
	case isTerm && top != "<" && sort == "f":
		return stack, "fun", true
	case isTerm && top != "<" && (sort == "name" || sort == "count" || sort == "below" || sort == "r" || sort == "p"):
		return stack, behindTerm(stack), true
	case isTerm && top != "<" && (w == "{" || w == "["):
		return stack + w, "first", true
	case isTerm && top != "<" && w == "#{":
		return stack + "m", "first", true
	case isTerm && top != "<" && w == "<<":
		return stack + "<", "first", true
	case wants == "more" && w == "," && top == "M":
		return stack[:len(stack)-1] + "m", "term", true
	case wants == "more" && w == ",":
		return stack, "term", true
	case (wants == "more" || wants == "first") && closes != "" && w == closes:
		return stack[:len(stack)-1], behindTerm(stack[:len(stack)-1]), true
	}
	return stack, wants, false
}

func behindTerm(stack string) string {
	if stack == "" {
		return "end"
	}
	if stack[len(stack)-1] == 'm' {
		return "arrow"
	}
	return "more"
}

// held holds both readers against one another, and what was read against its own text.
func held(t *testing.T, s string) {
	got, code, at := impl.TermRead(s)
	want := secondRead(s)
	if want >= 0 {
		if code != impl.ErrText || at != want || !zero(got) {
			t.Fatalf("%q: %d %d, not %d", s, code, at, want)
		}
		return
	}
	if code != impl.OK || at != 0 {
		t.Fatalf("%q: %d %d, should be read", s, code, at)
	}
	shown, _ := impl.TermShow(got)
	if again, code, _ := impl.TermRead(shown); code != impl.OK || !same(again, got) {
		t.Fatalf("%q: %q", s, shown)
	}
}

// P1: all texts of at most four of these bytes.
func TestReadOfAllShortP1(t *testing.T) {
	eachText("", 4, strings.Split("a Z 1 0 - # r p f { } [ ] < > = , _", " "), func(s string) {
		held(t, s)
		held(t, strings.ReplaceAll(s, "_", " "))
	})
}

// P1: all texts of at most five of these words.
func TestReadOfAllWordsP1(t *testing.T) {
	eachText("", 5, []string{"a ", "7 ", "-1 ", "#f1 ", "{ ", "} ", "[ ", "] ", "#{ ", "=> ", ", ", "<< ", ">> "}, func(s string) {
		held(t, s)
	})
}

func eachText(s string, n int, parts []string, tell func(string)) {
	tell(s)
	if n > 0 {
		for _, p := range parts {
			eachText(s+p, n-1, parts, tell)
		}
	}
}

// P1: the texts of terms with one byte left out, or another one in its place.
func TestReadOfSpoiltP1(t *testing.T) {
	for _, x := range anyTerms(120) {
		s, _ := impl.TermShow(x)
		if len(s) > 200 {
			continue
		}
		for i := range len(s) {
			held(t, s[:i]+s[i+1:])
			held(t, s[:i])
			for _, c := range "a0-#{}[]<>=, Z~" {
				held(t, s[:i]+string(c)+s[i+1:])
				held(t, s[:i]+string(c)+s[i:])
			}
		}
	}
}
