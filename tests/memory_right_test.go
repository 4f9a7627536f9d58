package tests

import (
	"math"
	"slices"
	"strings"
	"testing"

	"loop.example/g00019/impl"
)

const (
	mmAtom  = impl.TmAtom
	mmRef   = impl.TmRef
	mmFun   = impl.TmFun
	mmPid   = impl.TmPid
	mmTuple = impl.TmTuple
	mmMap   = impl.TmMap
	mmList  = impl.TmList
	mmBin   = impl.TmBin
	mmLarge = impl.MmLarge
)

// packed is the words of a text: how many bytes, and they, seven in a word.
func packed(s string) []int {
	words := []int{len(s)}
	for i := range len(s) {
		if i%7 == 0 {
			words = append(words, 0)
		}
		words[len(words)-1] |= int(s[i]) << (8 * (6 - i%7))
	}
	return words
}

func atomObj(s string) []int { return obj(mmAtom, packed(s)...) }

func binObj(s string) []int { return obj(mmBin, packed(s)...) }

// times is words so many times one behind the other.
func times(n int, words []int) []int { return slices.Repeat(words, n) }

func TestConstantsOfMemory(t *testing.T) {
	for want, n := range map[int]int{20: impl.MaxHeaps, 30000: impl.MaxWords, 200: impl.MaxShared, 64: impl.MaxSmall, 10: impl.MmLarge} {
		if n != want {
			t.Error(n, want)
		}
	}
	if impl.MaxRoots != 200 {
		t.Error(impl.MaxRoots)
	}
}

// Objects of each Kind, kept and broken by one: those that a heap of them alone may have, and those that it may not.
func TestObjectsP11(t *testing.T) {
	t.Parallel()
	for what, words := range map[string][]int{
		"nothing":                     {},
		"tuple of nothing":            obj(mmTuple),
		"tuple of Ints":               obj(mmTuple, 0, intV(1), intV(-1)),
		"greatest Int":                obj(mmTuple, intV(impl.MaxInt)),
		"least Int":                   obj(mmTuple, intV(-impl.MaxInt)),
		"empty List":                  obj(mmTuple, emptyV),
		"what stands ahead":           slices.Concat(obj(mmRef, 5), obj(mmTuple, objV(0))),
		"what stands behind":          slices.Concat(obj(mmTuple, objV(2)), obj(mmRef, 5)),
		"itself":                      obj(mmTuple, objV(0)),
		"two within each other":       slices.Concat(obj(mmTuple, objV(2)), obj(mmFun, 0, objV(0))),
		"list that leads to itself":   obj(mmList, 0, objV(0)),
		"list within itself":          obj(mmList, objV(0), emptyV),
		"two lists, tail behind tail": slices.Concat(obj(mmList, 0, objV(3)), obj(mmList, 0, objV(0))),
		"map within itself":           obj(mmMap, objV(0), objV(0)),
		"map whose keys fall":         obj(mmMap, intV(2), 0, intV(1), 0),
		"map of nothing":              obj(mmMap),
		"map of one":                  obj(mmMap, 0, 0),
		"list of one":                 obj(mmList, 0, emptyV),
		"list of two":                 slices.Concat(obj(mmList, 0, emptyV), obj(mmList, 0, objV(0))),
		"ref 0":                       obj(mmRef, 0),
		"greatest ref":                obj(mmRef, impl.MaxInt),
		"pid 0":                       obj(mmPid, 0),
		"greatest pid":                obj(mmPid, impl.MaxInt),
		"fun 0":                       obj(mmFun, 0),
		"greatest fun":                obj(mmFun, impl.MaxInt),
		"fun whose number is odd":     obj(mmFun, 3),
		"ref whose number is odd":     obj(mmRef, 7),
		"fun with two":                obj(mmFun, 1, emptyV, 0),
		"atom of 1":                   atomObj("a"),
		"atom of 7":                   atomObj("aZ09_zA"),
		"atom of 8":                   atomObj("abcdefgh"),
		"atom of 30":                  atomObj(strings.Repeat("z", 30)),
		"bin of 0":                    binObj(""),
		"bin of 1":                    binObj("\x00"),
		"bin of 7":                    binObj("\xff\xff\xff\xff\xff\xff\xff"),
		"bin of 8":                    binObj("\xff\xff\xff\xff\xff\xff\xff\xff"),
		"bin of 63":                   binObj(strings.Repeat("\x00", 63)),
		"bin of 64":                   binObj(strings.Repeat("\xff", 64)),
		"bin of 64, of 0":             binObj(strings.Repeat("\x00", 64)),
		"one of each":                 slices.Concat(atomObj("a"), obj(mmRef, 1), obj(mmFun, 1), obj(mmPid, 1), obj(mmTuple), obj(mmMap), obj(mmList, 0, emptyV), binObj("a")),
		"30000 words":                 times(30000, obj(mmTuple)),
		"30000 words of one":          obj(mmTuple, make([]int, 29999)...),
		"30000 words of a fun":        obj(mmFun, make([]int, 29999)...),
		"29999 words":                 times(29999, obj(mmTuple)),
	} {
		isMem(t, what, memOf(young(words)))
		isMem(t, what+", old", memOf(aged(len(words), words)))
	}
	for what, words := range map[string][]int{
		"no object":                  {0},
		"no object behind":           {mmTuple * 65536, 0},
		"below 0":                    {-1},
		"greatest":                   {math.MaxInt},
		"least":                      {math.MinInt},
		"kind 0 of one":              obj(0, 0),
		"kind 1":                     obj(impl.TmInt, 0),
		"kind 1 of nothing":          obj(impl.TmInt),
		"kind 11":                    obj(11, 0),
		"kind 11 of nothing":         obj(11),
		"kind below 0":               obj(-1, 0),
		"kind 6 below 0":             obj(-mmTuple),
		"kind of more bits":          obj(256+mmTuple, 0),
		"size below 0":               {mmTuple*65536 - 1},
		"over the end by one":        {mmTuple*65536 + 1},
		"over the end, behind":       append(obj(mmTuple), mmTuple*65536+2, 0),
		"ref over the end":           {mmRef*65536 + 1},
		"list over the end":          {mmList*65536 + 2, 0},
		"atom over the end":          {mmAtom*65536 + 2, 1},
		"bin over the end":           {mmBin*65536 + 1},
		"greatest size":              {mmTuple*65536 + 65535, 0},
		"30001 words":                times(30001, obj(mmTuple)),
		"30001 words of one":         obj(mmTuple, make([]int, 30000)...),
		"a million words":            make([]int, 1000000),
		"a million objects":          times(1000000, obj(mmTuple)),
		"Int above":                  obj(mmTuple, intV(impl.MaxInt+1)),
		"Int below":                  obj(mmTuple, intV(-impl.MaxInt-1)),
		"greatest Int of all":        obj(mmTuple, math.MaxInt&^3),
		"least Int of all":           obj(mmTuple, math.MinInt),
		"Int above, last":            obj(mmTuple, 0, 0, intV(impl.MaxInt+1)),
		"Int above in a fun":         obj(mmFun, 0, intV(impl.MaxInt+1)),
		"Int above, last in a fun":   obj(mmFun, 0, 0, intV(impl.MaxInt+1)),
		"Int above as a key":         obj(mmMap, intV(impl.MaxInt+1), 0),
		"Int above as a key's value": obj(mmMap, 0, intV(impl.MaxInt+1)),
		"Int above in a list":        obj(mmList, intV(impl.MaxInt+1), emptyV),
		"within an object":           obj(mmTuple, objV(1)),
		"within another one":         slices.Concat(obj(mmTuple, objV(3)), obj(mmRef, mmRef*65536)),
		"behind the end":             obj(mmTuple, objV(2)),
		"far behind the end":         obj(mmTuple, objV(1<<60)),
		"place below 0":              obj(mmTuple, objV(-1)),
		"least place":                obj(mmTuple, math.MinInt+1),
		"3":                          obj(mmTuple, 3),
		"7":                          obj(mmTuple, 7),
		"-1":                         obj(mmTuple, -1),
		"6":                          obj(mmTuple, 6),
		"-2":                         obj(mmTuple, -2),
		"10":                         slices.Concat(obj(mmTuple, 10), obj(mmTuple)),
		"greatest number":            obj(mmTuple, math.MaxInt),
		"tail an Int":                obj(mmList, 0, intV(1)),
		"tail the Int 0":             obj(mmList, 0, 0),
		"tail a tuple":               slices.Concat(obj(mmTuple), obj(mmList, 0, objV(0))),
		"tail a map":                 slices.Concat(obj(mmMap), obj(mmList, 0, objV(0))),
		"tail a bin":                 slices.Concat(binObj(""), obj(mmList, 0, objV(0))),
		"tail no place":              slices.Concat(obj(mmList, 0, emptyV), obj(mmList, 0, objV(1))),
		"tail behind the end":        obj(mmList, 0, objV(3)),
		"tail below 0":               obj(mmList, 0, objV(-1)),
		"tail 6":                     obj(mmList, 0, 6),
		"tail 3":                     obj(mmList, 0, 3),
		"list of no words":           obj(mmList),
		"list of one word":           obj(mmList, emptyV),
		"list of three words":        obj(mmList, 0, emptyV, emptyV),
		"map of one word":            obj(mmMap, 0),
		"map of three words":         obj(mmMap, 0, 0, intV(1)),
		"ref of nothing":             obj(mmRef),
		"ref of two":                 obj(mmRef, 0, 0),
		"ref below":                  obj(mmRef, -1),
		"ref above":                  obj(mmRef, impl.MaxInt+1),
		"pid of nothing":             obj(mmPid),
		"pid of two":                 obj(mmPid, 0, 0),
		"pid below":                  obj(mmPid, -1),
		"pid above":                  obj(mmPid, impl.MaxInt+1),
		"fun of nothing":             obj(mmFun),
		"fun below":                  obj(mmFun, -1),
		"fun above":                  obj(mmFun, impl.MaxInt+1),
		"fun with no value":          obj(mmFun, 0, 3),
		"atom of nothing":            obj(mmAtom),
		"atom of 0 bytes":            atomObj(""),
		"atom of 31":                 atomObj(strings.Repeat("a", 31)),
		"atom of 64":                 atomObj(strings.Repeat("a", 64)),
		"atom begins upper":          atomObj("Ab"),
		"atom with a blank":          atomObj("a b"),
		"atom with a byte 0":         atomObj("a\x00"),
		"bin of nothing":             obj(mmBin),
		"bin of 65":                  binObj(strings.Repeat("a", 65)),
		"bin of 70":                  binObj(strings.Repeat("a", 70)),
		"bin of 100000":              binObj(strings.Repeat("a", 100000)),
		"bin of -1":                  obj(mmBin, -1),
		"bin of many, without words": obj(mmBin, math.MaxInt),
		"bin of few, without words":  obj(mmBin, math.MinInt),
		"bin of 0 with a word":       obj(mmBin, 0, 0),
		"bin of 1 without words":     obj(mmBin, 1),
		"bin of 7 with two words":    obj(mmBin, 7, 0, 0),
		"bin of 8 with one word":     obj(mmBin, 8, 0),
		"bin of 14 with three words": obj(mmBin, 14, 0, 0, 0),
		"bin not filled up":          obj(mmBin, 1, 97<<48|1),
		"bin not filled up in front": obj(mmBin, 1, 97<<48|1<<40),
		"bin of 6 not filled up":     obj(mmBin, 6, 1),
		"bin of 8 not filled up":     obj(mmBin, 8, 0, 1),
		"bin with eight bytes":       obj(mmBin, 7, 1<<56),
		"bin with eight, last word":  obj(mmBin, 8, 0, 1<<56),
		"bin with a word below 0":    obj(mmBin, 7, -1),
		"atom not filled up":         obj(mmAtom, 1, 97<<48|97),
		"atom with eight bytes":      obj(mmAtom, 1, 97<<48|1<<56),
		"large without a Shared":     obj(mmLarge, 0),
	} {
		isNoMem(t, what, memOf(young(words), young()))
		isNoMem(t, what+", behind another heap", memOf(young(), young(words)))
		isNoMem(t, what+", old", memOf(aged(len(words), words), young()))
	}
}

// Where Old may be, and what old objects may have.
func TestOldP11(t *testing.T) {
	three := [][]int{obj(mmRef, 1), obj(mmTuple, 0, 0), obj(mmPid, 2)}
	for old := -3; old < 12; old++ {
		m := memOf(young(), aged(old, three...))
		if old == 0 || old == 2 || old == 5 || old == 7 {
			isMem(t, "Old at a begin or the end", m)
		} else {
			isNoMem(t, "Old elsewhere", m)
		}
	}
	isNoMem(t, "Old far behind", memOf(aged(math.MaxInt, three...)))
	isNoMem(t, "Old far below", memOf(aged(math.MinInt, three...)))
	isNoMem(t, "Old 1 of no words", memOf(aged(1)))
	// Where the second word of an object looks like another object's first.
	isNoMem(t, "Old within", memOf(aged(1, obj(mmRef, mmRef*65536))))

	for what, of := range map[string]func(v int) []int{
		"tuple":         func(v int) []int { return obj(mmTuple, v) },
		"tuple, second": func(v int) []int { return obj(mmTuple, emptyV, v) },
		"fun":           func(v int) []int { return obj(mmFun, 0, v) },
		"key":           func(v int) []int { return obj(mmMap, v, 0) },
		"value":         func(v int) []int { return obj(mmMap, 0, v) },
		"element":       func(v int) []int { return obj(mmList, v, emptyV) },
		"tail":          func(v int) []int { return obj(mmList, 0, v) },
	} {
		size := len(of(0))
		last := obj(mmList, 0, emptyV)
		isMem(t, what+" both young", memOf(aged(0, of(objV(size)), last)))
		isMem(t, what+" both old", memOf(aged(size+3, of(objV(size)), last)))
		isNoMem(t, what+" old, of a young one", memOf(aged(size, of(objV(size)), last)))
		isMem(t, what+" old, of itself", memOf(aged(size, of(objV(0)), last)))
		isMem(t, what+" young, of an old one", memOf(aged(3, last, of(objV(0)))))
		isMem(t, what+" young, of a young one", memOf(aged(3, last, last, of(objV(3)))))
		isNoMem(t, what+" old, of the second young one", memOf(aged(size, of(objV(size+3)), last, last)))
	}
	// The last of the old ones names the first of the young ones.
	isNoMem(t, "the last old one", memOf(aged(3, obj(mmTuple), obj(mmTuple, objV(3)), obj(mmTuple))))
	isMem(t, "the first young one", memOf(aged(1, obj(mmTuple), obj(mmTuple, objV(3)), obj(mmTuple))))
}

// How many heaps and Shareds there may be, and what heaps have that are not Live.
func TestHeapsP11(t *testing.T) {
	isMem(t, "nothing", impl.Mem{})
	isMem(t, "empty lists", impl.Mem{Heaps: []impl.Heap{}, Shared: []impl.Shared{}})
	live, gone := young(), impl.Heap{}
	for _, h := range []impl.Heap{live, gone, {Words: []int{}, Live: true}, {Words: []int{}}} {
		isMem(t, "20 heaps", memOf(slices.Repeat([]impl.Heap{h}, 20)...))
		isNoMem(t, "21 heaps", memOf(slices.Repeat([]impl.Heap{h}, 21)...))
	}
	isMem(t, "20 whole heaps", memOf(slices.Repeat([]impl.Heap{aged(30000, times(30000, obj(mmTuple)))}, 20)...))
	isNoMem(t, "a million heaps", memOf(make([]impl.Heap, 1000000)...))
	isNoMem(t, "words of what is not Live", memOf(live, impl.Heap{Words: obj(mmTuple)}))
	isNoMem(t, "words of what is not Live, at last", memOf(live, live, impl.Heap{Words: obj(mmRef, 1)}))
	isNoMem(t, "Old of what is not Live", memOf(live, impl.Heap{Old: 1}))
	isNoMem(t, "Old below 0 of what is not Live", memOf(live, impl.Heap{Old: -1}))
	isNoMem(t, "words and Old of what is not Live", memOf(live, impl.Heap{Words: obj(mmTuple), Old: 1}))

	isMem(t, "200 that are free", sharing(memOf(live), make([]impl.Shared, 200)...))
	isNoMem(t, "201 that are free", sharing(memOf(live), make([]impl.Shared, 201)...))
	isNoMem(t, "a million that are free", sharing(memOf(live), make([]impl.Shared, 1000000)...))
	var words []int
	for n := range 200 {
		words = append(words, obj(mmLarge, n)...)
	}
	used := slices.Repeat([]impl.Shared{{S: large("a"), Refs: 1}}, 201)
	isMem(t, "200 in use", sharing(memOf(young(words)), used[:200]...))
	isNoMem(t, "201 in use", sharing(memOf(young(words, obj(mmLarge, 200))), used...))
	isNoMem(t, "one that is not there", sharing(memOf(young(words, obj(mmLarge, 200))), used[:200]...))
}

// What a Shared may be.
func TestSharedP11(t *testing.T) {
	of := func(n, refs int) impl.Shared { return impl.Shared{S: strings.Repeat("s", n), Refs: refs} }
	named := func(n int) impl.Mem { return memOf(young(times(n, obj(mmLarge, 0))), young()) }
	for _, n := range []int{0, 1, 63, 64, 65, 66, 3999, 4000, 4001, 100000} {
		for _, refs := range []int{-1, 0, 1, 2, 3} {
			for objects := range 4 {
				m := sharing(named(objects), of(n, refs))
				if n >= 65 && n <= 4000 && refs == objects && refs > 0 || n == 0 && refs == 0 && objects == 0 {
					isMem(t, "shared", m)
				} else {
					isNoMem(t, "shared", m)
				}
			}
		}
	}
	one := obj(mmLarge, 0)
	isMem(t, "named by two heaps", sharing(memOf(young(one), aged(2, one)), of(65, 2)))
	isNoMem(t, "one heap counted", sharing(memOf(young(one), aged(2, one)), of(65, 1)))
	isMem(t, "a free one ahead", sharing(memOf(young(obj(mmLarge, 1))), impl.Shared{}, of(65, 1)))
	isMem(t, "a free one behind", sharing(memOf(young(one)), of(65, 1), impl.Shared{}))
	isNoMem(t, "free, but named", sharing(memOf(young(one)), impl.Shared{}, of(65, 1)))
	isNoMem(t, "named is the other one", sharing(memOf(young(one)), of(65, 0), of(65, 1)))
	isNoMem(t, "two named by one each, Refs for both in one", sharing(memOf(young(one, obj(mmLarge, 1))), of(65, 2), of(65, 0)))
	isMem(t, "two of one text", sharing(memOf(young(one, obj(mmLarge, 1))), of(65, 1), of(65, 1)))
	isNoMem(t, "a number behind", sharing(memOf(young(one, obj(mmLarge, 1))), of(65, 1)))
	isNoMem(t, "a number far behind", sharing(memOf(young(obj(mmLarge, math.MaxInt))), of(65, 1)))
	isNoMem(t, "a number below 0", sharing(memOf(young(obj(mmLarge, -1))), of(65, 1)))
	isNoMem(t, "no number", sharing(memOf(young(obj(mmLarge))), impl.Shared{}))
	isNoMem(t, "two numbers", sharing(memOf(young(obj(mmLarge, 0, 0))), of(65, 1)))
	isNoMem(t, "two numbers, Refs for both", sharing(memOf(young(obj(mmLarge, 0, 0))), of(65, 2)))
	isMem(t, "any bytes", sharing(memOf(young(one)), impl.Shared{S: strings.Repeat("\x00\xff", 33), Refs: 1}))
}
