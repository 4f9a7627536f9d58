package tests

import (
	"fmt"
	"slices"
	"strings"
	"testing"

	"loop.example/g00019/impl"
)

// changeRun is what becomes of a node whose code is changed, of texts and acts that are some: what the second reading says.
// Into the texts, the acts and the room behind them nothing is written, and the report shares no memory with them.
func changeRun(t *testing.T, texts []string, acts []impl.Act) impl.Report {
	t.Helper()
	room := append(make([]string, 0, len(texts)+2), texts...)
	r := happens(t, texts, acts, func(acts []impl.Act) (impl.Report, int) { return impl.Change(room, acts) }, changeByWords(texts, acts))
	if !slices.Equal(room, texts) || !slices.Equal(room[len(texts):cap(room)], []string{"", ""}) {
		t.Fatal("the texts were written into")
	}
	return r
}

// codeOfChange is the code of Change, whose report has to be the zero value when it is not OK.
func codeOfChange(t *testing.T, texts []string, acts []impl.Act) int {
	t.Helper()
	r, code := impl.Change(texts, acts)
	if code != impl.OK && !zeroReport(r) {
		t.Errorf("code %d with a report: %s", code, reportText(r))
	}
	return code
}

// modulesOf is texts of modules, as these tests write them, with a line feed between each two.
func modulesOf(text string) []string {
	var row []string
	for line := range strings.SplitSeq(strings.TrimSpace(text), "\n") {
		row = append(row, "module "+strings.TrimSpace(line))
	}
	return row
}

// changing asks of rows of acts, with => behind each, what is told.
func changing(t *testing.T, modules string, rows ...string) {
	t.Helper()
	for _, row := range rows {
		at := strings.LastIndex(row, " => ") // maps have arrows, too
		acts, want := row[:at], row[at+len(" => "):]
		r := changeRun(t, modulesOf(modules), actsOf(acts))
		if told(r) != want {
			t.Errorf("%s\n%s\ntells %s\nnot   %s", modules, acts, told(r), want)
		}
	}
}

// entries is what Diff tells, as these tests write it: f/0 same; g/1 gone.
func entries(row []impl.Entry) string {
	var all []string
	for _, e := range row {
		all = append(all, fmt.Sprintf("%s/%d %s", e.Name, e.Arity, []string{"same", "changed", "gone", "new"}[e.What]))
	}
	return strings.Join(all, "; ")
}

// diff is what Diff tells of two sound codes: what the second reading says, and nothing is written into them.
func diff(t *testing.T, old, new impl.Code) string {
	t.Helper()
	a, b := copiedCode(old), copiedCode(new)
	row, wrong := impl.Diff(old, new)
	if wrong != impl.OK {
		t.Fatalf("Diff: code %d\n%s\n%s", wrong, listing(old), listing(new))
	}
	if !sameCode(a, old) || !sameCode(b, new) {
		t.Fatalf("Diff writes into\n%s\n%s", listing(old), listing(new))
	}
	if words := diffByWords(old, new); !slices.Equal(row, words) {
		t.Fatalf("%s\nby the words %s\nof %s\nand %s", entries(row), entries(words), listing(old), listing(new))
	}
	return entries(row)
}

// differs asks what Diff tells of two codes as these tests write them (codeOf), with the functions that they refer to, and
// what of the two the other way round.
func differs(t *testing.T, old, new impl.Code, want, back string) {
	t.Helper()
	if got := diff(t, old, new); got != want {
		t.Errorf("%s\nnot %s\nof %s\nand %s", got, want, listing(old), listing(new))
	}
	if got := diff(t, new, old); got != back {
		t.Errorf("back %s\nnot %s\nof %s\nand %s", got, back, listing(old), listing(new))
	}
	for _, c := range []impl.Code{old, new} {
		if got := diff(t, c, copiedCode(c)); strings.Contains(got, "changed") || strings.Contains(got, "gone") || strings.Contains(got, "new") {
			t.Errorf("%s of a code and itself\n%s", got, listing(c))
		}
	}
}

func TestConstantsOfChange(t *testing.T) {
	for name, pair := range map[string][2]int{
		"MaxMods": {impl.MaxMods, 20}, "DfSame": {impl.DfSame, 0}, "DfChanged": {impl.DfChanged, 1}, "DfGone": {impl.DfGone, 2}, "DfNew": {impl.DfNew, 3},
		"AcLoad": {impl.AcLoad, 6}, "AcPurge": {impl.AcPurge, 7}, "AcSoft": {impl.AcSoft, 8}, "EvLoad": {impl.EvLoad, 4}, "EvKeep": {impl.EvKeep, 5}, "EvPurge": {impl.EvPurge, 6},
	} {
		if pair[0] != pair[1] {
			t.Error(name, pair)
		}
	}
}
