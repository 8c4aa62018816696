package merge_test

import (
	"reflect"
	"slices"
	"testing"

	"caesura/api"
	"caesura/merge"
)

// listsOf is all lists of numbers of a pairing.
func listsOf(p api.Pairing) [][]int {
	return slices.Concat(p.Left.Next, p.Left.Out, p.Right.Next, p.Right.Out)
}

func copied(l [][]int) [][]int {
	var c [][]int
	for _, one := range l {
		c = append(c, slices.Clone(one))
	}
	return c
}

func copyOf(p api.Pairing) api.Pairing {
	for _, m := range []*api.Machine{&p.Left, &p.Right} {
		m.Next, m.Out = copied(m.Next), copied(m.Out)
	}
	p.Breaks = slices.Clone(p.Breaks)
	return p
}

// Who writes into a list of an answer, or behind its end, changes no other list, and no later answer.
func TestP17_7_Answers(t *testing.T) {
	w := worldOf(t, example, "Hi.", "z. B.")
	want := copyOf(made(t, w))
	p := made(t, w)
	for _, l := range listsOf(p) {
		for spare := range cap(l) - len(l) {
			l[:cap(l)][len(l)+spare] = -7
		}
	}
	if !same(p, want) {
		t.Error("P17.7: two lists of an answer share memory")
	}
	for i, l := range listsOf(p) {
		was := slices.Clone(l)
		for n := range l {
			l[n] = -7
		}
		for j, other := range listsOf(p) {
			if j != i && !slices.Equal(other, listsOf(want)[j]) {
				t.Errorf("P17.7: list %d is list %d, too", i, j)
			}
		}
		copy(l, was)
	}
	for _, l := range listsOf(p) {
		for n := range l {
			l[n] = -7
		}
	}
	for i := range p.Breaks {
		p.Breaks[i] = true
	}
	if q := made(t, w); !same(q, want) {
		t.Error("P17.7: an answer changes a later one")
	}
	all := merge.Patterns(w.r, w.entries)
	held := slices.Clone(all)
	again := merge.Patterns(w.r, w.entries)
	clear(all[:cap(all)])
	if !slices.Equal(again, held) || !slices.Equal(merge.Patterns(w.r, w.entries), held) {
		t.Error("P17.7: patterns share memory")
	}
}

// roomy is a list with spare room, in which something stands.
func roomy[T any](l []T, spare ...T) []T { return append(slices.Clone(l), spare...)[:len(l)] }

// handed is all that Of is handed, with spare room, and what stands there.
func handed(t *testing.T, more ...api.Rule) (world, []any) {
	t.Helper()
	w := worldWith(t, api.Rules{Rules: append(parsed(t, "Q: ^ 'q' Sp* >< (Lower Upper)+ $\n"+example).Rules, more...), Trail: api.Set{Names: []string{"Sp"}}}, entriesOf("Hi.", "z. B.", "a"))
	for i := range w.entries {
		w.entries[i] = roomy(w.entries[i], 71, 72)
	}
	w.entries = roomy(w.entries, list(5), list(6))
	w.r.Rules = roomy(w.r.Rules, api.Rule{Name: "Y"}, api.Rule{Name: "Z"})
	w.r.Trail.Names = roomy(w.r.Trail.Names, "Spare")
	var points [][]int
	for _, entry := range w.entries[:cap(w.entries)] {
		points = append(points, entry[:cap(entry)])
	}
	return w, []any{w.r, w.r.Rules[:cap(w.r.Rules)], w.r.Trail.Names[:cap(w.r.Trail.Names)], points}
}

// What is handed in is not changed, spare room neither, and not kept: where there is a pairing, and where a machine is too great, or a rule is refused.
func TestP17_7_Arguments(t *testing.T) {
	for _, more := range [][]api.Rule{nil, {far("Far", 14, true)}, {sided("Much", much(set(point('a'))), true, false)}} {
		w, all := handed(t, more...)
		_, was := handed(t, more...)
		p, _, err := merge.Of(w.r, w.entries, w.a, most)
		patterns := merge.Patterns(w.r, w.entries)
		if !reflect.DeepEqual(all, was) {
			t.Error("P17.7: Of or Patterns changes what it is handed")
		}
		want, wanted := copyOf(p), slices.Clone(patterns)
		if again, _, err2 := merge.Of(w.r, w.entries, w.a, most); err2 != err || !same(again, want) {
			t.Errorf("P0.2: %v, and then %v", err, err2)
		}
		for _, entry := range w.entries {
			clear(entry)
		}
		clear(w.entries)
		clear(w.r.Rules)
		if !same(p, want) || !slices.Equal(patterns, wanted) {
			t.Error("P17.7: Of or Patterns keeps what it is handed")
		}
	}
}
