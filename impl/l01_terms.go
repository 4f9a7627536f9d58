// Package impl is Skein, a language of isolated processes, layer by layer.
package impl

import (
	"cmp"
	"math"
	"slices"
	"strconv"
	"strings"
)

const MaxInt = 1000000000000000
const MaxName = 30
const MaxNodes = 2000
const MaxDepth = 100
const MaxBin = 4000
const MaxText = 20000
const MaxPacked = 40000

const OK = 0
const ErrBad = 1
const ErrText = 2
const ErrFull = 3
const ErrForm = 4

const TmInt = 1
const TmAtom = 2
const TmRef = 3
const TmFun = 4
const TmPid = 5
const TmTuple = 6
const TmMap = 7
const TmList = 8
const TmBin = 9

// Term is a value.
type Term struct {
	Kind int
	N    int
	S    string
	Kids []Term
}

// TermOK tells whether a term is one.
func TermOK(t Term) bool {
	_, code := TermSize(t)
	return code == OK
}

// TermSize is how many terms a term is.
func TermSize(t Term) (size int, code int) {
	defer func() {
		if f, is := faultIn(recover()); is {
			size, code = 0, f.code
		}
	}()
	var g goIn
	g.value(t, 1)
	return g.terms, OK
}

// TermCompare is -1, 0 or 1.
func TermCompare(a Term, b Term) (order int, code int) {
	defer func() {
		if f, is := faultIn(recover()); is {
			order, code = 0, f.code
		}
	}()
	return orderOf(inward(a), inward(b)), OK
}

// TermShow is a term's text.
func TermShow(t Term) (text string, code int) {
	defer func() {
		if f, is := faultIn(recover()); is {
			text, code = "", f.code
		}
	}()
	w := writer{most: MaxText}
	inward(t).show(&w)
	return string(w.text), OK
}

// TermRead reads a term.
func TermRead(text string) (t Term, code int, at int) {
	defer func() {
		if f, is := faultIn(recover()); is {
			t, code, at = Term{}, f.code, f.at
		}
	}()
	if len(text) > MaxText {
		return Term{}, ErrBad, 0
	}
	r := reader{text: text}
	r.next()
	v := r.value(1)
	if r.now.kind != wordEnd {
		r.fail()
	}
	if r.full {
		return Term{}, ErrFull, 0
	}
	return outward(v), OK, 0
}

// TermPack is a term as bytes.
func TermPack(t Term) (data string, code int) {
	defer func() {
		if f, is := faultIn(recover()); is {
			data, code = "", f.code
		}
	}()
	w := writer{most: MaxPacked}
	w.bytes(packBegin)
	inward(t).pack(&w)
	return string(w.text), OK
}

// TermUnpack reads them back.
func TermUnpack(data string) (t Term, code int) {
	defer func() {
		if _, is := faultIn(recover()); is {
			t, code = Term{}, ErrForm
		}
	}()
	u := unpacker{data: data}
	t = outward(u.whole())
	// What was taken apart loosely counts only when it is packed just so.
	if again, bad := TermPack(t); bad != OK || again != data {
		return Term{}, ErrForm
	}
	return t, OK
}

// TermHash is a number of a term.
func TermHash(t Term) (number int, code int) {
	defer func() {
		if f, is := faultIn(recover()); is {
			number, code = 0, f.code
		}
	}()
	inward(t)
	return int(hashBegin.addTerm(t)), OK
}

// fault is what a walk that cannot go on panics with: what its face answers.
type fault struct {
	code int
	at   int
}

// faultIn is the fault that was recovered, if there was one. What nobody
// foresaw counts as ErrBad, because no face may panic.
func faultIn(recovered any) (fault, bool) {
	switch r := recovered.(type) {
	case nil:
		return fault{}, false
	case fault:
		return r, true
	}
	return fault{code: ErrBad}, true
}

// budget counts the terms of a walk.
type budget struct {
	terms int
}

// passed counts one more term and tells whether that is too many or too deep.
func (b *budget) passed(depth int) bool {
	b.terms++
	return b.terms > MaxNodes || depth > MaxDepth
}

// value is a term on the inside, one type a Kind.
type value interface {
	kind() int
	order(other value) int // against one of the same Kind
	show(w *writer)
	pack(w *writer)
}

type intValue int

type atomValue string

type refValue int

type funValue struct {
	n    int
	held []value
}

type pidValue int

type tupleValue []value

type pair struct {
	key value
	val value
}

type mapValue []pair // the keys rise

type listValue []value

type binValue string

func (v intValue) kind() int   { return TmInt }
func (v atomValue) kind() int  { return TmAtom }
func (v refValue) kind() int   { return TmRef }
func (v funValue) kind() int   { return TmFun }
func (v pidValue) kind() int   { return TmPid }
func (v tupleValue) kind() int { return TmTuple }
func (v mapValue) kind() int   { return TmMap }
func (v listValue) kind() int  { return TmList }
func (v binValue) kind() int   { return TmBin }

// goIn goes over from a Term to a value; a Term that is not right ends it.
type goIn struct {
	budget
}

func inward(t Term) value {
	var g goIn
	return g.value(t, 1)
}

func (g *goIn) value(t Term, depth int) value {
	if g.passed(depth) || !fieldsFit(t) {
		panic(fault{code: ErrBad})
	}
	switch t.Kind {
	case TmInt:
		return intValue(t.N)
	case TmAtom:
		return atomValue(t.S)
	case TmRef:
		return refValue(t.N)
	case TmFun:
		return funValue{t.N, g.row(t.Kids, depth+1)}
	case TmPid:
		return pidValue(t.N)
	case TmTuple:
		return tupleValue(g.row(t.Kids, depth+1))
	case TmMap:
		return g.rising(t.Kids, depth+1)
	case TmList:
		return listValue(g.row(t.Kids, depth+1))
	}
	return binValue(t.S)
}

func (g *goIn) row(kids []Term, depth int) []value {
	// Room is made only for as many as may still come: a term may lead back to itself.
	row := make([]value, 0, min(len(kids), MaxNodes-g.terms))
	for _, kid := range kids {
		row = append(row, g.value(kid, depth))
	}
	return row
}

func (g *goIn) rising(kids []Term, depth int) mapValue {
	row := pairsOf(g.row(kids, depth))
	for i := 1; i < len(row); i++ {
		if orderOf(row[i-1].key, row[i].key) >= 0 {
			panic(fault{code: ErrBad})
		}
	}
	return row
}

func pairsOf(row []value) mapValue {
	pairs := make(mapValue, 0, len(row)/2)
	for i := 0; i < len(row); i += 2 {
		pairs = append(pairs, pair{row[i], row[i+1]})
	}
	return pairs
}

// fieldsFit tells whether a term's own fields are as its Kind asks, whatever its Kids are.
func fieldsFit(t Term) bool {
	lone := len(t.Kids) == 0
	switch t.Kind {
	case TmInt:
		return t.N >= -MaxInt && t.N <= MaxInt && t.S == "" && lone
	case TmAtom:
		return t.N == 0 && isName(t.S) && lone
	case TmRef, TmPid:
		return t.N >= 0 && t.N <= MaxInt && t.S == "" && lone
	case TmFun:
		return t.N >= 0 && t.N <= MaxInt && t.S == ""
	case TmTuple, TmList:
		return t.N == 0 && t.S == ""
	case TmMap:
		return t.N == 0 && t.S == "" && len(t.Kids)%2 == 0
	case TmBin:
		return t.N == 0 && len(t.S) <= MaxBin && lone
	}
	return false
}

func isName(s string) bool {
	if len(s) == 0 || len(s) > MaxName || !isLower(s[0]) {
		return false
	}
	for i := range len(s) {
		if !isNameByte(s[i]) {
			return false
		}
	}
	return true
}

func isLower(c byte) bool { return c >= 'a' && c <= 'z' }

func isDigit(c byte) bool { return c >= '0' && c <= '9' }

func isNameByte(c byte) bool {
	return isLower(c) || c >= 'A' && c <= 'Z' || isDigit(c) || c == '_'
}

// outward goes back from a value to a Term.
func outward(v value) Term {
	switch x := v.(type) {
	case intValue:
		return Term{Kind: TmInt, N: int(x)}
	case atomValue:
		return Term{Kind: TmAtom, S: string(x)}
	case refValue:
		return Term{Kind: TmRef, N: int(x)}
	case funValue:
		return Term{Kind: TmFun, N: x.n, Kids: outwardRow(x.held)}
	case pidValue:
		return Term{Kind: TmPid, N: int(x)}
	case tupleValue:
		return Term{Kind: TmTuple, Kids: outwardRow(x)}
	case mapValue:
		return Term{Kind: TmMap, Kids: outwardRow(x.flat())}
	case listValue:
		return Term{Kind: TmList, Kids: outwardRow(x)}
	case binValue:
		return Term{Kind: TmBin, S: string(x)}
	}
	return Term{}
}

func outwardRow(row []value) []Term {
	if len(row) == 0 {
		return nil
	}
	kids := make([]Term, 0, len(row))
	for _, v := range row {
		kids = append(kids, outward(v))
	}
	return kids
}

// flat is the keys and values as the Kids of a Term stand.
func (v mapValue) flat() []value {
	var row []value
	for _, p := range v {
		row = append(row, p.key, p.val)
	}
	return row
}

// settled is the map of pairs in any order; of keys that are alike the last one counts.
func settled(pairs []pair) mapValue {
	sorted := slices.Clone(pairs)
	slices.SortStableFunc(sorted, func(a, b pair) int { return orderOf(a.key, b.key) })
	var m mapValue
	for i, p := range sorted {
		if i+1 == len(sorted) || orderOf(p.key, sorted[i+1].key) != 0 {
			m = append(m, p)
		}
	}
	return m
}

func orderOf(a value, b value) int {
	if a.kind() != b.kind() {
		return cmp.Compare(a.kind(), b.kind())
	}
	return a.order(b)
}

// orderCounted is the order of rows of which the shorter one is first.
func orderCounted(a []value, b []value) int {
	if len(a) != len(b) {
		return cmp.Compare(len(a), len(b))
	}
	return slices.CompareFunc(a, b, orderOf)
}

func (v intValue) order(other value) int { return cmp.Compare(v, other.(intValue)) }

func (v atomValue) order(other value) int { return cmp.Compare(v, other.(atomValue)) }

func (v refValue) order(other value) int { return cmp.Compare(v, other.(refValue)) }

func (v pidValue) order(other value) int { return cmp.Compare(v, other.(pidValue)) }

func (v binValue) order(other value) int { return cmp.Compare(v, other.(binValue)) }

func (v tupleValue) order(other value) int { return orderCounted(v, other.(tupleValue)) }

func (v listValue) order(other value) int {
	return slices.CompareFunc(v, other.(listValue), orderOf)
}

func (v funValue) order(other value) int {
	o := other.(funValue)
	if v.n != o.n {
		return cmp.Compare(v.n, o.n)
	}
	return orderCounted(v.held, o.held)
}

func (v mapValue) order(other value) int {
	o := other.(mapValue)
	if len(v) != len(o) {
		return cmp.Compare(len(v), len(o))
	}
	keys := slices.CompareFunc(v, o, func(a, b pair) int { return orderOf(a.key, b.key) })
	if keys != 0 {
		return keys
	}
	return slices.CompareFunc(v, o, func(a, b pair) int { return orderOf(a.val, b.val) })
}

// writer puts texts one behind the other, up to a limit.
type writer struct {
	most int
	text []byte
}

// write joins texts to those that are there; what is too long ends the walk.
func (w *writer) write(texts ...string) {
	for _, s := range texts {
		if len(w.text)+len(s) > w.most {
			panic(fault{code: ErrFull})
		}
		w.text = append(w.text, s...)
	}
}

func (w *writer) bytes(row ...byte) {
	w.write(string(row))
}

// number writes n in size bytes, the highest first.
func (w *writer) number(n int, size int) {
	for i := size - 1; i >= 0; i-- {
		w.bytes(byte(n >> (8 * i)))
	}
}

// comma writes what stands ahead of the place i of a row.
func (w *writer) comma(i int) {
	if i > 0 {
		w.write(", ")
	}
}

func (w *writer) showRow(open string, row []value, end string) {
	w.write(open)
	for i, v := range row {
		w.comma(i)
		v.show(w)
	}
	w.write(end)
}

func (v intValue) show(w *writer) { w.write(strconv.Itoa(int(v))) }

func (v atomValue) show(w *writer) { w.write(string(v)) }

func (v refValue) show(w *writer) { w.write("#r", strconv.Itoa(int(v))) }

func (v pidValue) show(w *writer) { w.write("#p", strconv.Itoa(int(v))) }

func (v tupleValue) show(w *writer) { w.showRow("{", v, "}") }

func (v listValue) show(w *writer) { w.showRow("[", v, "]") }

func (v funValue) show(w *writer) {
	w.write("#f", strconv.Itoa(v.n))
	w.showRow("{", v.held, "}")
}

func (v mapValue) show(w *writer) {
	w.write("#{")
	for i, p := range v {
		w.comma(i)
		p.key.show(w)
		w.write(" => ")
		p.val.show(w)
	}
	w.write("}")
}

func (v binValue) show(w *writer) {
	w.write("<<")
	for i := range len(v) {
		w.comma(i)
		w.write(strconv.Itoa(int(v[i])))
	}
	w.write(">>")
}

// The bytes that packed terms begin with.
const (
	packBegin     = 131
	packByte      = 97
	packInt       = 98
	packPid       = 103
	packTuple     = 104
	packLongTuple = 105
	packEmpty     = 106
	packByteList  = 107
	packList      = 108
	packBin       = 109
	packFun       = 112
	packRef       = 114
	packMap       = 116
	packAtom      = 119
)

const packNumber = 7 // how many bytes a number has

func (w *writer) packRow(row []value) {
	for _, v := range row {
		v.pack(w)
	}
}

// isByte tells whether an Int needs but one byte.
func (v intValue) isByte() bool { return v >= 0 && v <= 255 }

func (v intValue) pack(w *writer) {
	if v.isByte() {
		w.bytes(packByte, byte(v))
		return
	}
	below, amount := byte(0), int(v)
	if v < 0 {
		below, amount = 1, -amount
	}
	w.bytes(packInt, below)
	w.number(amount, packNumber)
}

func (v atomValue) pack(w *writer) {
	w.bytes(packAtom, byte(len(v)))
	w.write(string(v))
}

func (v refValue) pack(w *writer) {
	w.bytes(packRef)
	w.number(int(v), packNumber)
}

func (v pidValue) pack(w *writer) {
	w.bytes(packPid)
	w.number(int(v), packNumber)
}

func (v funValue) pack(w *writer) {
	w.bytes(packFun)
	w.number(v.n, packNumber)
	w.number(len(v.held), 2)
	w.packRow(v.held)
}

func (v tupleValue) pack(w *writer) {
	if len(v) <= 255 {
		w.bytes(packTuple, byte(len(v)))
	} else {
		w.bytes(packLongTuple)
		w.number(len(v), 2)
	}
	w.packRow(v)
}

func (v mapValue) pack(w *writer) {
	w.bytes(packMap)
	w.number(len(v), 2)
	w.packRow(v.flat())
}

func (v listValue) pack(w *writer) {
	bytes, all := v.asBytes()
	switch {
	case len(v) == 0:
		w.bytes(packEmpty)
	case all:
		w.bytes(packByteList)
		w.number(len(v), 2)
		w.bytes(bytes...)
	default:
		w.bytes(packList)
		w.number(len(v), 2)
		w.packRow(v)
	}
}

// asBytes is the elements as bytes, when all of them are.
func (v listValue) asBytes() ([]byte, bool) {
	var row []byte
	for _, e := range v {
		n, is := e.(intValue)
		if !is || !n.isByte() {
			return nil, false
		}
		row = append(row, byte(n))
	}
	return row, true
}

func (v binValue) pack(w *writer) {
	w.bytes(packBin)
	w.number(len(v), 2)
	w.write(string(v))
}

// unpacker takes packed bytes apart. It looks only at what it needs to go on;
// whether they are in the one form TermUnpack asks afterwards.
type unpacker struct {
	budget
	data string
	at   int
}

// whole is the term that all of the bytes are.
func (u *unpacker) whole() value {
	if u.number(1) != packBegin {
		panic(fault{code: ErrForm})
	}
	return u.value(1)
}

func (u *unpacker) bytes(n int) string {
	if n > len(u.data)-u.at {
		panic(fault{code: ErrForm})
	}
	s := u.data[u.at : u.at+n]
	u.at += n
	return s
}

func (u *unpacker) number(size int) int {
	s := u.bytes(size)
	n := 0
	for i := range size {
		n = n<<8 | int(s[i])
	}
	return n
}

func (u *unpacker) value(depth int) value {
	if u.passed(depth) {
		panic(fault{code: ErrForm})
	}
	switch u.number(1) {
	case packByte:
		return intValue(u.number(1))
	case packInt:
		return u.signed()
	case packAtom:
		return atomValue(u.bytes(u.number(1)))
	case packRef:
		return refValue(u.number(packNumber))
	case packPid:
		return pidValue(u.number(packNumber))
	case packFun:
		n := u.number(packNumber)
		return funValue{n, u.row(u.number(2), depth+1)}
	case packTuple:
		return tupleValue(u.row(u.number(1), depth+1))
	case packLongTuple:
		return tupleValue(u.row(u.number(2), depth+1))
	case packMap:
		return pairsOf(u.row(2*u.number(2), depth+1))
	case packEmpty:
		return listValue(nil)
	case packByteList:
		return byteList(u.bytes(u.number(2)))
	case packList:
		return listValue(u.row(u.number(2), depth+1))
	case packBin:
		return binValue(u.bytes(u.number(2)))
	}
	panic(fault{code: ErrForm})
}

func (u *unpacker) signed() value {
	below := u.number(1)
	amount := u.number(packNumber)
	if below == 1 {
		amount = -amount
	}
	return intValue(amount)
}

func (u *unpacker) row(n int, depth int) []value {
	var row []value
	for range n {
		row = append(row, u.value(depth))
	}
	return row
}

// byteList is the List of a text's bytes.
func byteList(s string) listValue {
	var row listValue
	for i := range len(s) {
		row = append(row, intValue(s[i]))
	}
	return row
}

// The kinds of words of a term's text.
const (
	wordNone = iota // what is no word
	wordEnd
	wordName
	wordNumber
	wordRef
	wordPid
	wordFun
	wordSign
)

// word is a word of a text, from the place at up to the place end.
type word struct {
	kind int
	text string // of a name or a sign
	n    int    // of a number, or of what is numbered
	at   int
	end  int
}

// wordAt is the first word from a place on.
func wordAt(text string, at int) word {
	for at < len(text) && (text[at] == ' ' || text[at] == '\n') {
		at++
	}
	if at == len(text) {
		return word{kind: wordEnd, at: at, end: at}
	}
	rest := text[at:]
	switch {
	case isLower(text[at]):
		return nameAt(text, at)
	case isDigit(text[at]):
		return numberAt(text, at, at, wordNumber)
	case text[at] == '-':
		return belowAt(text, at)
	case strings.HasPrefix(rest, "#r"):
		return numberAt(text, at, at+2, wordRef)
	case strings.HasPrefix(rest, "#p"):
		return numberAt(text, at, at+2, wordPid)
	case strings.HasPrefix(rest, "#f"):
		return numberAt(text, at, at+2, wordFun)
	}
	return signAt(text, at)
}

func nameAt(text string, at int) word {
	end := at
	for end < len(text) && isNameByte(text[end]) {
		end++
	}
	if !isName(text[at:end]) {
		return word{kind: wordNone, at: at, end: end}
	}
	return word{kind: wordName, text: text[at:end], at: at, end: end}
}

// numberAt is the word that begins at at and whose digits begin at from.
func numberAt(text string, at int, from int, kind int) word {
	end := from
	for end < len(text) && isNameByte(text[end]) {
		end++
	}
	n, is := numeral(text[from:end])
	if !is {
		return word{kind: wordNone, at: at, end: end}
	}
	return word{kind: kind, n: n, at: at, end: end}
}

// belowAt is a number below 0.
func belowAt(text string, at int) word {
	w := numberAt(text, at, at+1, wordNumber)
	if w.n == 0 {
		w.kind = wordNone
	}
	w.n = -w.n
	return w
}

// numeral is the number that digits without a needless zero say.
func numeral(s string) (int, bool) {
	if s == "" || len(s) > 1 && s[0] == '0' {
		return 0, false
	}
	n := 0
	for i := range len(s) {
		if !isDigit(s[i]) {
			return 0, false
		}
		n = 10*n + int(s[i]-'0')
		if n > MaxInt {
			return 0, false
		}
	}
	return n, true
}

func signAt(text string, at int) word {
	for _, s := range []string{"#{", "{", "}", "[", "]", "<<", ">>", ",", "=>"} {
		if strings.HasPrefix(text[at:], s) {
			return word{kind: wordSign, text: s, at: at, end: at + len(s)}
		}
	}
	return word{kind: wordNone, at: at, end: at + 1}
}

// reader reads a text word by word.
type reader struct {
	budget
	text string
	now  word
	full bool // too large or too deep: told only when all words are as they should be
}

func (r *reader) next() {
	r.now = wordAt(r.text, r.now.end)
}

// fail ends the walk at the word that cannot stand where it is.
func (r *reader) fail() {
	panic(fault{code: ErrText, at: r.now.at})
}

func (r *reader) has(sign string) bool {
	return r.now.kind == wordSign && r.now.text == sign
}

func (r *reader) take(sign string) {
	if !r.has(sign) {
		r.fail()
	}
	r.next()
}

func (r *reader) value(depth int) value {
	if r.passed(depth) {
		r.full = true
	}
	first := r.now
	r.next()
	switch first.kind {
	case wordName:
		return atomValue(first.text)
	case wordNumber:
		return intValue(first.n)
	case wordRef:
		return refValue(first.n)
	case wordPid:
		return pidValue(first.n)
	case wordFun:
		r.take("{")
		return funValue{first.n, r.values("}", depth+1)}
	case wordSign:
		return r.opened(first, depth+1)
	}
	panic(fault{code: ErrText, at: first.at})
}

// opened reads what stands behind a sign that begins a term.
func (r *reader) opened(sign word, depth int) value {
	switch sign.text {
	case "{":
		return tupleValue(r.values("}", depth))
	case "[":
		return listValue(r.values("]", depth))
	case "#{":
		return r.pairs(depth)
	case "<<":
		return r.bin()
	}
	panic(fault{code: ErrText, at: sign.at})
}

// row reads items with commas between them, and the sign at their end.
func (r *reader) row(end string, item func()) {
	if !r.has(end) {
		item()
		for r.has(",") {
			r.next()
			item()
		}
	}
	r.take(end)
}

func (r *reader) values(end string, depth int) []value {
	var row []value
	r.row(end, func() { row = append(row, r.value(depth)) })
	return row
}

func (r *reader) pairs(depth int) value {
	var row []pair
	r.row("}", func() {
		key := r.value(depth)
		r.take("=>")
		row = append(row, pair{key, r.value(depth)})
	})
	if r.full { // refused anyway, so nobody asks for the order
		return mapValue(row)
	}
	return settled(row)
}

func (r *reader) bin() value {
	var row []byte
	r.row(">>", func() {
		if r.now.kind != wordNumber || !intValue(r.now.n).isByte() {
			r.fail()
		}
		row = append(row, byte(r.now.n))
		r.next()
	})
	if len(row) > MaxBin {
		r.full = true
	}
	return binValue(row)
}

// hash is the number that is made of bytes, so far.
type hash uint32

const hashBegin hash = 5381

func (h hash) add(b byte) hash { return h*33 + hash(b) }

func (h hash) addText(s string) hash {
	for i := range len(s) {
		h = h.add(s[i])
	}
	return h
}

// addNumber takes n in size bytes, the highest first.
func (h hash) addNumber(n int, size int) hash {
	for i := size - 1; i >= 0; i-- {
		h = h.add(byte(n >> (8 * i)))
	}
	return h
}

// addTerm takes a term that is right.
func (h hash) addTerm(t Term) hash {
	h = h.add(byte(t.Kind)).addNumber(t.N&math.MaxInt64, 8)
	h = h.addNumber(len(t.S), 2).addText(t.S).addNumber(len(t.Kids), 2)
	for _, kid := range t.Kids {
		h = h.addTerm(kid)
	}
	return h
}
