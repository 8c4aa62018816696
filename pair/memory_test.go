package pair_test

import (
	"reflect"
	"slices"
	"testing"

	"caesura/api"
	"caesura/pair"
)

// listsOf is all lists of numbers of a pairing.
func listsOf(p api.Pairing) [][]int {
	return slices.Concat(p.Left.Next, p.Left.Out, p.Right.Next, p.Right.Out)
}

func copyOf(p api.Pairing) api.Pairing {
	deep := func(l [][]int) [][]int {
		var c [][]int
		for _, one := range l {
			c = append(c, slices.Clone(one))
		}
		return c
	}
	for _, m := range []*api.Machine{&p.Left, &p.Right} {
		m.Next, m.Out = deep(m.Next), deep(m.Out)
	}
	p.Breaks = slices.Clone(p.Breaks)
	return p
}

// Who writes into a list of an answer, or behind its end, changes no other list.
func TestP14_8_Answers(t *testing.T) {
	w := worldOf(t, example, "Hi.", "z. B.")
	want := copyOf(made(t, w))
	p := made(t, w)
	for _, l := range listsOf(p) {
		for spare := range cap(l) - len(l) {
			l[:cap(l)][len(l)+spare] = -7
		}
	}
	if !same(p, want) {
		t.Error("P14.8: two lists of an answer share memory")
	}
	for i, l := range listsOf(p) {
		was := slices.Clone(l)
		for n := range l {
			l[n] = -7
		}
		changed := 0
		for j, other := range listsOf(p) {
			if !slices.Equal(other, listsOf(want)[j]) {
				changed++
			}
		}
		if changed > 1 {
			t.Errorf("P14.8: list %d is another one, too", i)
		}
		copy(l, was)
	}
	for _, l := range listsOf(p) {
		for n := range l {
			l[n] = -7
		}
	}
	for i := range p.Breaks {
		p.Breaks[i] = true
	}
	if q := made(t, w); !same(q, want) {
		t.Error("P14.8: an answer changes a later one")
	}
	numbers, _ := pair.Decide(want, w.word("Hi. Ok"))
	places, _ := pair.Breaks(want, w.word("Hi. Ok"))
	for i := range numbers {
		numbers[i] = 9
	}
	for i := range places {
		places[i] = 9
	}
	decides(t, want, w.word("Hi. Ok"), list(0, 1, 2, 2, -1))
	breaks(t, "P14.8", want, w.word("Hi. Ok"), list(0, 6))
}

// roomy is a list with spare room, in which numbers stand.
func roomy(l []int) []int {
	r := append(slices.Clone(l), 71, 72, 73, 74)
	return r[:len(l)]
}

func TestP14_8_Arguments(t *testing.T) {
	build := func() world {
		w := worldOf(t, "Q: ^ 'q' Sp* >< (Lower Upper)+ $\n"+example, "Hi.", "z. B.", "a")
		for i := range w.entries {
			w.entries[i] = roomy(w.entries[i])
		}
		w.entries = append(w.entries, list(5), list(6))[:3]
		w.r.Rules = append(w.r.Rules, api.Rule{Name: "Y"}, api.Rule{Name: "Z"})[:5]
		return w
	}
	w, was := build(), build()
	p := made(t, w)
	all := func(w world) []any {
		var spare [][]int
		for _, entry := range w.entries[:cap(w.entries)] {
			spare = append(spare, entry[:cap(entry)])
		}
		return []any{w.r, w.r.Rules[:cap(w.r.Rules)], spare}
	}
	if !reflect.DeepEqual(all(w), all(was)) {
		t.Error("P14.8: Of changes what it is handed")
	}
	want := copyOf(p)
	for _, entry := range w.entries {
		clear(entry)
	}
	clear(w.r.Rules)
	if !same(p, want) {
		t.Error("P14.8: Of keeps what it is handed")
	}
	word := roomy(was.word("Hi. Ok. a"))
	held := slices.Clone(word[:cap(word)])
	pair.Decide(p, word)
	pair.Breaks(p, word)
	if err := pair.Check(p, was.a.Symbols()); err != nil || !slices.Equal(word[:cap(word)], held) || !same(p, want) {
		t.Errorf("P14.8: Decide or Breaks changes what it is handed; %v", err)
	}
}
