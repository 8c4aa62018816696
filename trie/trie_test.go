package trie_test

import (
	"math"
	"slices"
	"testing"

	"caesura/api"
	"caesura/trie"
)

func list(n ...int) []int { return n }

func points(text string) []int {
	var l []int
	for _, r := range text {
		l = append(l, int(r))
	}
	return l
}

func lists(texts ...string) [][]int {
	var l [][]int
	for _, text := range texts {
		l = append(l, points(text))
	}
	return l
}

func made(t *testing.T, entries [][]int) *trie.Trie {
	t.Helper()
	x, err := trie.New(entries)
	if err != nil || x == nil {
		t.Fatalf("P15.1: New(%v): %v, %v", entries, x, err)
	}
	return x
}

func refuses(t *testing.T, what string, entries [][]int, want error) {
	t.Helper()
	if x, err := trie.New(entries); x != nil || err != want {
		t.Errorf("P15.1: %s: %v, %v, want %v", what, x, err, want)
	}
}

// row is n entries of one point.
func row(n int) [][]int {
	var l [][]int
	for i := range n {
		l = append(l, list(i))
	}
	return l
}

func TestExamples(t *testing.T) {
	none := made(t, nil)
	if none.Size() != 1 || len(none.All(points("a"))) != 0 {
		t.Errorf("P15.2: without entries: %d, %v", none.Size(), none.All(points("a")))
	}
	x := made(t, lists("ab", "b", "abc", "ca"))
	if x.Size() != 7 {
		t.Errorf("P15.2: Size = %d, want 7", x.Size())
	}
	type row struct {
		call  func([]int, int) (int, bool)
		name  string
		text  string
		at    int
		want  int
		found bool
	}
	for _, r := range []row{
		{x.Longest, "Longest", "xabc", 1, 2, true},
		{x.Longest, "Longest", "ab", 0, 0, true},
		{x.Longest, "Longest", "ab", 1, 1, true},
		{x.Longest, "Longest", "ab", 2, 0, false},
		{x.Longest, "Longest", "ab", -1, 0, false},
		{x.Ending, "Ending", "xabc", 3, 0, true},
		{x.Ending, "Ending", "b", 1, 1, true},
		{x.Ending, "Ending", "b", 0, 0, false},
		{x.Ending, "Ending", "b", 2, 0, false},
	} {
		if n, found := r.call(points(r.text), r.at); n != r.want || found != r.found {
			t.Errorf("P15.3: %s(%q, %d) = %d, %v, want %d, %v", r.name, r.text, r.at, n, found, r.want, r.found)
		}
	}
	want := []api.Found{{Entry: 0, Start: 0, End: 2}, {Entry: 1, Start: 1, End: 2}, {Entry: 2, Start: 0, End: 3}, {Entry: 3, Start: 2, End: 4}}
	if all := x.All(points("abca")); !slices.Equal(all, want) {
		t.Errorf("P15.4: %v, want %v", all, want)
	}
	if _, found := x.Longest(list(-1), 0); found || len(x.All(list(-1))) != 0 {
		t.Error("P15.4: a bad unit is in an entry")
	}
	refuses(t, "an empty entry", [][]int{nil}, api.ErrArg)
	refuses(t, "-1", [][]int{list(-1)}, api.ErrArg)
	refuses(t, "D800", [][]int{list(0xD800)}, api.ErrArg)
	refuses(t, "33 numbers", [][]int{make([]int, 33)}, api.ErrMany)
	refuses(t, "one twice", lists("a", "a"), api.ErrTwice)
}

func TestP15_1_Limits(t *testing.T) {
	if x := made(t, row(2000)); x.Size() != 2001 {
		t.Errorf("P15.2: 2000 entries of one point: %d", x.Size())
	}
	refuses(t, "2001 entries", row(2001), api.ErrMany)
	if x := made(t, [][]int{make([]int, 32)}); x.Size() != 33 {
		t.Errorf("P15.2: one entry of 32 points: %d", x.Size())
	}
	refuses(t, "33 points", [][]int{list('a'), make([]int, 33)}, api.ErrMany)
	for _, n := range list(0, 0xD7FF, 0xE000, 0x10FFFF) {
		x := made(t, [][]int{list('a', n)})
		if number, found := x.Longest(list('a', n), 0); !found || number != 0 {
			t.Errorf("P15.1: %X is a scalar value", n)
		}
	}
	for _, n := range list(math.MinInt, -2, -1, 0xD800, 0xDABC, 0xDFFF, 0x110000, math.MaxInt) {
		refuses(t, "no scalar value", [][]int{list('b'), list('a', n, 'a')}, api.ErrArg)
	}
}

func TestP15_1_Order(t *testing.T) {
	many := row(2001)
	many[0] = nil
	refuses(t, "too many, and an empty one", many, api.ErrMany)
	long := make([]int, 33)
	refuses(t, "too long, its last number none", [][]int{append(slices.Clone(long), -1)}, api.ErrArg)
	refuses(t, "twice, then an empty one", [][]int{list(1), list(1), nil}, api.ErrTwice)
	refuses(t, "an empty one, then twice", [][]int{list(1), nil, list(1)}, api.ErrArg)
	refuses(t, "too long, then a wrong one", [][]int{long, list(-1)}, api.ErrMany)
	refuses(t, "a wrong one, then too long", [][]int{list(-1), long}, api.ErrArg)
	refuses(t, "too long ones twice", [][]int{long, long}, api.ErrMany)
	refuses(t, "wrong ones twice", [][]int{list(-1), list(-1)}, api.ErrArg)
	refuses(t, "twice with others between", lists("ab", "a", "abc", "b", "ab"), api.ErrTwice)
	refuses(t, "twice at the limit", append(row(1999), list(0)), api.ErrTwice)
}

// A beginning of an entry is none itself, as long as it was not handed in.
func TestP15_3_BeginningsAreNoEntries(t *testing.T) {
	x := made(t, lists("abcd", "bc"))
	word := points("abce")
	if n, found := x.Longest(word, 0); found || n != 0 {
		t.Errorf("P15.3: Longest = %d, %v", n, found)
	}
	if n, found := x.Ending(word, 3); !found || n != 1 {
		t.Errorf("P15.3: Ending = %d, %v: the entry bc stands within a beginning", n, found)
	}
	if all := x.All(word); !slices.Equal(all, []api.Found{{Entry: 1, Start: 1, End: 3}}) {
		t.Errorf("P15.4: %v", all)
	}
	if n, found := x.Ending(word, 2); found || n != 0 {
		t.Errorf("P15.3: Ending = %d, %v", n, found)
	}
}

// ladder is "a", "aa" and so on, the longest first, so that a number tells nothing of a length.
func ladder(most int) [][]int {
	var l [][]int
	for n := most; n > 0; n-- {
		l = append(l, slices.Repeat(list('a'), n))
	}
	return l
}

func TestP15_4_Ladder(t *testing.T) {
	entries := ladder(api.MaxEntry)
	x := made(t, entries)
	for _, n := range list(1, 31, 32, 33, 70) {
		holds(t, x, entries, slices.Repeat(list('a'), n))
	}
	const great = 100000
	word := slices.Repeat(list('a'), great)
	all := x.All(word)
	if want := 32*great - 31*32/2; len(all) != want {
		t.Fatalf("P15.4: %d found, want %d", len(all), want)
	}
	if last := all[len(all)-1]; last != (api.Found{Entry: 31, Start: great - 1, End: great}) {
		t.Errorf("P15.4: the last is %v", last)
	}
}

// A call about one place of a great word looks at what is near, so that asking of each place is quick.
func TestP15_3_GreatWord(t *testing.T) {
	entries := append(ladder(31), append(slices.Repeat(list('a'), 31), 'b'))
	x := made(t, entries)
	word := slices.Repeat(list('a'), 1000000)
	word[len(word)-1] = 'b'
	for at := 31; at < len(word); at++ {
		if n, found := x.Ending(word, at); n != 0 || !found {
			t.Fatalf("P15.3: Ending at %d = %d, %v", at, n, found)
		}
	}
	for at := range len(word) - 32 {
		if n, found := x.Longest(word, at); n != 0 || !found {
			t.Fatalf("P15.3: Longest at %d = %d, %v", at, n, found)
		}
	}
	if n, found := x.Longest(word, len(word)-32); n != 31 || !found {
		t.Errorf("P15.3: Longest = %d, %v, want 31", n, found)
	}
	if n, found := x.Ending(word, len(word)); n != 31 || !found {
		t.Errorf("P15.3: Ending = %d, %v, want 31", n, found)
	}
}

// 2000 entries of 32 points, that have long ends in common.
func TestP15_1_GreatTrie(t *testing.T) {
	var entries [][]int
	for i := range api.MaxEntries {
		e := slices.Repeat(list('a'), api.MaxEntry)
		for bit := range 11 {
			e[2*bit] += i >> bit & 1
		}
		entries = append(entries, e)
	}
	x := made(t, entries)
	if want := sizeOfSorted(entries); x.Size() != want {
		t.Errorf("P15.2: Size = %d, want %d", x.Size(), want)
	}
	for i, e := range entries {
		word := slices.Concat(list('a', 'a', api.Bad), e, list('a', 'b'))
		all := x.All(word)
		if !slices.Contains(all, api.Found{Entry: i, Start: 3, End: 35}) {
			t.Fatalf("P15.4: entry %d: %v", i, all)
		}
		if n, found := x.Longest(word, 3); n != i || !found {
			t.Fatalf("P15.3: entry %d: %d, %v", i, n, found)
		}
		if n, found := x.Ending(word, 35); n != i || !found {
			t.Fatalf("P15.3: entry %d: %d, %v", i, n, found)
		}
	}
}

// sizeOfSorted counts the beginnings of many entries: in their order each has as many of its own as it is longer than what it has in common with the one ahead of it.
func sizeOfSorted(entries [][]int) int {
	sorted := slices.Clone(entries)
	slices.SortFunc(sorted, slices.Compare)
	size := 1
	var ahead []int
	for _, e := range sorted {
		common := 0
		for common < min(len(ahead), len(e)) && ahead[common] == e[common] {
			common++
		}
		size += len(e) - common
		ahead = e
	}
	return size
}

// P15.6: any numbers in a word and any place.
func TestP15_6_AnyArguments(t *testing.T) {
	strange := list(math.MinInt, -2, -1, 0, 0xD800, 0xDFFF, 0x110000, math.MaxInt, 1<<32+'a', 'a'-1<<32)
	for _, entries := range [][][]int{nil, {}, lists("a"), lists("a", "aa", "ab", "b")} {
		x := made(t, entries)
		for _, word := range [][]int{nil, {}, strange, slices.Concat(strange, list('a'), strange), list('a')} {
			holds(t, x, entries, word)
		}
	}
}
