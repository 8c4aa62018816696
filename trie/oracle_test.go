package trie_test

import (
	"math"
	"math/rand"
	"slices"
	"testing"

	"caesura/api"
	"caesura/trie"
)

// stands: the chapter's words, for an entry from s to f.
func stands(entry, word []int, s, f int) bool {
	return s >= 0 && f <= len(word) && f-s == len(entry) && slices.Equal(word[s:f], entry)
}

func allBy(entries [][]int, word []int) []api.Found {
	var all []api.Found
	for f := 1; f <= len(word); f++ {
		for s := range f {
			for number, entry := range entries {
				if stands(entry, word, s, f) {
					all = append(all, api.Found{Entry: number, Start: s, End: f})
				}
			}
		}
	}
	return all
}

// longestBy tells of all entries that may stand so the longest one.
func longestBy(entries [][]int, may func(entry []int) bool) (int, bool) {
	best, found := 0, false
	for number, entry := range entries {
		if may(entry) && (!found || len(entry) > len(entries[best])) {
			best, found = number, true
		}
	}
	return best, found
}

func sizeBy(entries [][]int) int {
	beginnings := [][]int{nil}
	for _, entry := range entries {
		for n := range entry {
			if !slices.ContainsFunc(beginnings, func(b []int) bool { return slices.Equal(b, entry[:n+1]) }) {
				beginnings = append(beginnings, entry[:n+1])
			}
		}
	}
	return len(beginnings)
}

// errorBy is P15.1 as it stands there.
func errorBy(entries [][]int) error {
	if len(entries) > 2000 {
		return api.ErrMany
	}
	for i, entry := range entries {
		if len(entry) == 0 {
			return api.ErrArg
		}
		for _, n := range entry {
			if n < 0 || n > 0x10FFFF || n >= 0xD800 && n <= 0xDFFF {
				return api.ErrArg
			}
		}
		if len(entry) > 32 {
			return api.ErrMany
		}
		for _, earlier := range entries[:i] {
			if slices.Equal(earlier, entry) {
				return api.ErrTwice
			}
		}
	}
	return nil
}

// holds asks a trie everything about a word, and holds the answers against the chapter's words.
func holds(t *testing.T, x *trie.Trie, entries [][]int, word []int) {
	t.Helper()
	all := x.All(word)
	if want := allBy(entries, word); !slices.Equal(all, want) {
		t.Fatalf("P15.4: %v: All(%v) = %v, want %v", entries, word, all, want)
	}
	places := []int{math.MinInt, -33, -2, -1, len(word) + 1, len(word) + 2, len(word) + 33, math.MaxInt}
	for at := range len(word) + 1 {
		places = append(places, at)
	}
	for _, at := range places {
		want, is := longestBy(entries, func(entry []int) bool {
			return at >= 0 && at <= len(word) && stands(entry, word, at, at+len(entry))
		})
		if n, found := x.Longest(word, at); n != want || found != is {
			t.Fatalf("P15.3: %v: Longest(%v, %d) = %d, %v, want %d, %v", entries, word, at, n, found, want, is)
		}
		want, is = longestBy(entries, func(entry []int) bool {
			return at >= 0 && at <= len(word) && stands(entry, word, at-len(entry), at)
		})
		if n, found := x.Ending(word, at); n != want || found != is {
			t.Fatalf("P15.3: %v: Ending(%v, %d) = %d, %v, want %d, %v", entries, word, at, n, found, want, is)
		}
	}
	agrees(t, x, word, all)
}

// agrees: P15.5, the three calls beside each other.
func agrees(t *testing.T, x *trie.Trie, word []int, all []api.Found) {
	t.Helper()
	for at := range len(word) + 1 {
		last, first := -1, -1
		for _, f := range all {
			if f.Start == at {
				last = f.Entry
			}
			if f.End == at && first < 0 {
				first = f.Entry
			}
		}
		if n, found := x.Longest(word, at); found != (last >= 0) || found && n != last {
			t.Fatalf("P15.5: Longest(%v, %d) = %d, %v; All: %v", word, at, n, found, all)
		}
		if n, found := x.Ending(word, at); found != (first >= 0) || found && n != first {
			t.Fatalf("P15.5: Ending(%v, %d) = %d, %v; All: %v", word, at, n, found, all)
		}
	}
}

// within: P15.5, what All tells of a piece, moved, is what it tells of the word there.
func within(t *testing.T, x *trie.Trie, word []int, from, to int) {
	t.Helper()
	var want []api.Found
	for _, f := range x.All(word) {
		if f.Start >= from && f.End <= to {
			want = append(want, api.Found{Entry: f.Entry, Start: f.Start - from, End: f.End - from})
		}
	}
	if got := x.All(word[from:to]); !slices.Equal(got, want) {
		t.Fatalf("P15.5: All(%v) from %d to %d is %v, want %v", word, from, to, got, want)
	}
}

type drawn struct{ *rand.Rand }

func newDrawn(seed int64) drawn { return drawn{rand.New(rand.NewSource(seed))} }

func (d drawn) list(least, most int, points []int) []int {
	l := make([]int, least+d.Intn(most-least+1))
	for i := range l {
		l[i] = points[d.Intn(len(points))]
	}
	return l
}

// entries are different ones, of few points, so that many have a beginning or an end in common.
func (d drawn) entries(count, most int, points []int) [][]int {
	var entries [][]int
	for range count {
		e := d.list(1, most, points)
		if !slices.ContainsFunc(entries, func(o []int) bool { return slices.Equal(o, e) }) {
			entries = append(entries, e)
		}
	}
	return entries
}

func TestP15_4_SmallOnes(t *testing.T) {
	// All sets of words of one to three of two letters, and one word in which each word of four letters stands.
	var all [][]int
	for n := 1; n <= 3; n++ {
		for bits := range 1 << n {
			var e []int
			for i := range n {
				e = append(e, 'a'+bits>>i&1)
			}
			all = append(all, e)
		}
	}
	word := points("aaaabaabbababbbbaaa")
	for set := range 1 << len(all) {
		var entries [][]int
		for i, e := range all {
			if set>>i&1 == 1 {
				entries = append(entries, e)
			}
		}
		x := made(t, entries)
		if want := sizeBy(entries); x.Size() != want {
			t.Fatalf("P15.2: %v: Size = %d, want %d", entries, x.Size(), want)
		}
		if got, want := x.All(word), allBy(entries, word); !slices.Equal(got, want) {
			t.Fatalf("P15.4: %v: All(%v) = %v, want %v", entries, word, got, want)
		}
	}
}

func TestP15_3_AllSmallWords(t *testing.T) {
	entries := lists("ab", "b", "abc", "ca", "cabab", "bca", "babc")
	x := made(t, entries)
	for n := range 7 {
		words := 1
		for range n {
			words *= 4
		}
		for number := range words {
			var word []int
			for range n {
				word = append(word, []int{'a', 'b', 'c', api.Bad}[number%4])
				number /= 4
			}
			holds(t, x, entries, word)
		}
	}
}

func TestP15_5_Samples(t *testing.T) {
	d := newDrawn(155)
	sets := [][]int{{'a'}, {'a', 'b'}, {'a', 'b', 'c'}, {0, 0xD7FF, 0xE000, 0x10FFFF}}
	others := list(api.Bad, 'x', 0xD800, 0xDFFF, 0x110000, math.MinInt, math.MaxInt)
	for i := range 6000 {
		of := sets[i%len(sets)]
		entries := d.entries(d.Intn(13), []int{2, 4, 9, 32}[i/4%4], of)
		x := made(t, entries)
		if want := sizeBy(entries); x.Size() != want {
			t.Fatalf("P15.2: %v: Size = %d, want %d", entries, x.Size(), want)
		}
		word := d.list(0, 40, of)
		if len(entries) > 0 && i%2 == 0 {
			word = append(word, entries[d.Intn(len(entries))]...)
			word = append(word, d.list(0, 3, of)...)
		}
		if len(word) > 0 && i%3 == 0 {
			word[d.Intn(len(word))] = others[d.Intn(len(others))]
		}
		holds(t, x, entries, word)
		from := d.Intn(len(word) + 1)
		within(t, x, word, from, from+d.Intn(len(word)-from+1))
	}
}

// Entries with one fault or more, in any order.
func TestP15_1_Samples(t *testing.T) {
	d := newDrawn(151)
	wrong := list(-1, math.MinInt, math.MaxInt, 0xD800, 0xDBFF, 0xDFFF, 0x110000)
	told := map[error]int{}
	for range 20000 {
		entries := d.entries(d.Intn(6), 3, list('a', 'b', 0xD7FF, 0xE000))
		for range d.Intn(3) {
			var e []int
			switch d.Intn(5) {
			case 0:
				e = d.list(1, 40, list('a', wrong[d.Intn(len(wrong))]))
			case 1:
				e = d.list(32, 34, list('a', 'b'))
			case 2:
				if len(entries) > 0 {
					e = slices.Clone(entries[d.Intn(len(entries))])
				}
			case 3:
				e = d.list(33, 40, list('a', 'b', -1))
			}
			entries = slices.Insert(entries, d.Intn(len(entries)+1), e)
		}
		want := errorBy(entries)
		told[want]++
		x, err := trie.New(entries)
		if err != want || (x == nil) != (want != nil) {
			t.Fatalf("P15.1: New(%v): %v, %v, want %v", entries, x, err, want)
		}
	}
	for _, err := range []error{nil, api.ErrArg, api.ErrMany, api.ErrTwice} {
		if told[err] < 500 {
			t.Errorf("%v: %d samples", err, told[err])
		}
	}
}
