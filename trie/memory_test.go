package trie_test

import (
	"slices"
	"testing"

	"caesura/api"
)

// roomy is a list with spare room, in which numbers stand.
func roomy(l []int) []int { return append(slices.Clone(l), 71, 72, 73)[:len(l)] }

// The page: what is handed in is not changed, spare room neither, and not kept.
func TestP15_6_Arguments(t *testing.T) {
	build := func() [][]int {
		var entries [][]int
		for _, e := range lists("ab", "b", "abc", "ca") {
			entries = append(entries, roomy(e))
		}
		return append(entries, list(5), list(6))[:4]
	}
	whole := func(entries [][]int) [][]int {
		var l [][]int
		for _, e := range entries[:6] {
			l = append(l, e[:cap(e)])
		}
		return l
	}
	entries := build()
	x := made(t, entries)
	if !slices.EqualFunc(whole(entries), whole(build()), slices.Equal) {
		t.Error("New changes what it is handed")
	}
	for i, e := range entries {
		clear(e)
		entries[i] = nil
	}
	word := roomy(points("abcab"))
	holds(t, x, build(), word)
	if !slices.Equal(word[:8], append(points("abcab"), 71, 72, 73)) {
		t.Error("a word is changed")
	}
	clear(word)
	holds(t, x, build(), points("abcab"))
	if x.Size() != 7 {
		t.Errorf("P15.2: Size = %d, want 7", x.Size())
	}
}

// The page: who writes into an answer, or appends to it, changes nothing else.
func TestP15_6_Answers(t *testing.T) {
	entries := lists("ab", "b", "abc", "ca")
	x := made(t, entries)
	word := points("abcab")
	want := slices.Clone(x.All(word))
	one, other := x.All(word), x.All(word)
	for i := range one {
		one[i] = api.Found{Entry: 9, Start: 9, End: 9}
	}
	_ = append(one, api.Found{Entry: 9})
	if !slices.Equal(other, want) || !slices.Equal(x.All(word), want) {
		t.Error("two answers share memory")
	}
}

// P0.2: the same calls give the same answers, asked again and asked of another trie of the same entries; other numbers of the entries change nothing else.
func TestP15_6_Determined(t *testing.T) {
	d := newDrawn(156)
	for range 300 {
		entries := d.entries(20, 6, list('a', 'b', 'c'))
		word := d.list(30, 60, list('a', 'b', 'c'))
		x := made(t, entries)
		all := x.All(word)
		if !slices.Equal(all, x.All(word)) || !slices.Equal(all, made(t, entries).All(word)) {
			t.Fatalf("%v: All(%v) is not the same again", entries, word)
		}
		turned := slices.Clone(entries)
		slices.Reverse(turned)
		y := made(t, turned)
		for i := range all {
			all[i].Entry = len(entries) - 1 - all[i].Entry
		}
		if !slices.Equal(all, y.All(word)) || x.Size() != y.Size() {
			t.Fatalf("%v: All(%v) in another order: %v, want %v", entries, word, y.All(word), all)
		}
	}
}
