package filter_test

import (
	"reflect"
	"slices"
	"testing"

	"caesura/api"
)

// roomy is a list with spare room, in which something stands.
func roomy[T any](l []T, spare ...T) []T { return append(slices.Clone(l), spare...)[:len(l)] }

func roomyLists(l [][]int) [][]int {
	var c [][]int
	for _, one := range l {
		c = append(c, roomy(one, 71, 72, 73))
	}
	return roomy(c, list(5), list(6))
}

type handed struct {
	p       api.Pairing
	trail   []int
	entries [][]int
}

// build is all that New is handed, each list with spare room.
func build() handed {
	next := [][]int{{0, 1, 2}, {0, 1, 2}, {0, 1, 2}}
	side := func() api.Machine {
		return api.Machine{Next: roomyLists(next), Out: roomyLists([][]int{nil, {0}, {1}})}
	}
	return handed{
		p:       api.Pairing{Left: side(), Right: side(), Breaks: roomy([]bool{true, false}, true, true), Else: true},
		trail:   roomy(list(2), 71, 72),
		entries: roomyLists(lists("a.", "b.c")),
	}
}

func whole(l [][]int) [][]int {
	var c [][]int
	for _, one := range l[:cap(l)] {
		c = append(c, one[:cap(one)])
	}
	return c
}

func (h handed) all() []any {
	l, r := h.p.Left, h.p.Right
	return []any{whole(l.Next), whole(l.Out), whole(r.Next), whole(r.Out), h.p.Breaks[:cap(h.p.Breaks)], h.trail[:cap(h.trail)], whole(h.entries), l.Start, r.Start, h.p.Else}
}

func (h handed) spoil() {
	for _, l := range [][][]int{h.p.Left.Next, h.p.Left.Out, h.p.Right.Next, h.p.Right.Out, h.entries} {
		for i, one := range l {
			for n := range one {
				one[n] = 99
			}
			l[i] = nil
		}
	}
	for i := range h.p.Breaks {
		h.p.Breaks[i] = !h.p.Breaks[i]
	}
	h.trail[0] = 1
}

// The page: what is handed in is not changed, spare room neither, and not kept.
func TestP16_1_Arguments(t *testing.T) {
	h, was := build(), build()
	f := made(t, h.p, 3, 1, h.trail, h.entries)
	if !reflect.DeepEqual(h.all(), was.all()) {
		t.Error("New changes what it is handed")
	}
	h.spoil()
	for _, text := range []string{"a. x", "xb.c .", ". a.  b", "  ..", ""} {
		asked(t, f, was.p, 1, was.trail, was.entries, points(text), symbols(text))
	}
	p, w := roomy(points("xa. . b.c"), 71, 72), roomy(symbols("xa. . b.c"), 71, 72)
	heldPoints, heldWord := slices.Clone(p[:cap(p)]), slices.Clone(w[:cap(w)])
	f.Hidden(p, w)
	f.Breaks(p, w)
	if !slices.Equal(p[:cap(p)], heldPoints) || !slices.Equal(w[:cap(w)], heldWord) {
		t.Error("Hidden or Breaks changes what it is handed")
	}
}

// The page: who writes into an answer, or appends to it, changes nothing else.
func TestP16_3_Answers(t *testing.T) {
	h := build()
	f := made(t, h.p, 3, 1, h.trail, h.entries)
	text := points("xa. . b.c.")
	word := symbols("xa. . b.c.")
	hidden, places := f.Hidden(text, word), first(f.Breaks(text, word))
	wantHidden, want := slices.Clone(hidden), slices.Clone(places)
	again, other := f.Hidden(text, word), first(f.Breaks(text, word))
	for _, l := range [][]int{hidden, places} {
		for i := range l[:cap(l)] {
			l[:cap(l)][i] = -7
		}
	}
	if !slices.Equal(again, wantHidden) || !slices.Equal(other, want) {
		t.Error("two answers share memory")
	}
	if !slices.Equal(f.Hidden(text, word), wantHidden) || !slices.Equal(first(f.Breaks(text, word)), want) {
		t.Error("an answer changes a later one")
	}
}

func first(l []int, _ error) []int { return l }

// P0.2: the same calls give the same answers, asked in another order and of another filter; the order of the entries does not matter.
func TestP16_3_Determined(t *testing.T) {
	d := newDrawn(162)
	for range 500 {
		p, trail, entries := d.pairing(), d.trail(3), d.entries(9, 4)
		before := d.Intn(len(p.Breaks)+2) - 1
		turned := slices.Clone(entries)
		slices.Reverse(turned)
		f, g := made(t, p, 3, before, trail, entries), made(t, p, 3, before, trail, turned)
		word := d.word(20, 3)
		text := d.points(len(word))
		places, hidden := first(f.Breaks(text, word)), f.Hidden(text, word)
		if !slices.Equal(g.Hidden(text, word), hidden) || !slices.Equal(first(g.Breaks(text, word)), places) || !slices.Equal(first(f.Breaks(text, word)), places) {
			t.Fatalf("P16.3: %v: not the same again", entries)
		}
	}
}
