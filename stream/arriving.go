package stream

import (
	"sort"

	"caesura/api"
)

// place is a place that is not settled, and what is known of it.
type place struct {
	offset int  // only the text's beginning has 0
	ahead  int  // the state of the left machine there
	symbol int  // of the unit behind it, if that has come
	sure   bool // its plain number is the same whatever comes
	number int
	hidden bool // by an entry among the whole units
}

// symbols says of units which symbols they have.
type symbols struct {
	letters []api.Span
	stray   int
}

func (s symbols) of(point int) int {
	if point == api.Bad {
		return s.stray
	}
	at := sort.Search(len(s.letters), func(i int) bool { return s.letters[i].High >= point })
	return s.letters[at].Name
}

// arrive takes in whole units; their offsets count from the end of those that have come.
func (t *Stream) arrive(list []api.Unit) {
	next := t.plain.Left.Next
	end := t.waiting[len(t.waiting)-1].offset
	for _, u := range list {
		last := &t.waiting[len(t.waiting)-1]
		last.symbol = t.symbols.of(u.Point)
		t.waiting = append(t.waiting, place{offset: end + u.End, ahead: next[last.ahead][last.symbol]})
	}
	t.hide(list)
}

// hide finds the places that entries hide which end among the new units, and the trail behind an entry.
func (t *Stream) hide(list []api.Unit) {
	word := t.entries.wordWith(list)
	old := len(word) - len(list)
	// Where the word begins among the places: below 0, if those there are settled.
	first := len(t.waiting) - 1 - len(word)
	for _, found := range t.entries.tree.All(word) {
		if found.End > old {
			t.cover(first+found.Start+1, first+found.End)
		}
	}
	for i := first + old + 1; i < len(t.waiting); i++ {
		// A place inside an entry counts too: the one behind it is hidden in any case.
		if ahead := t.waiting[i-1]; ahead.hidden && t.entries.inTrail(ahead.symbol) {
			t.waiting[i].hidden = true
		}
	}
	t.entries.keepEnd(word)
}

// cover hides the places inside an entry, and the one at its end.
func (t *Stream) cover(from, end int) {
	if t.waiting[end].hidden {
		return // of the entries with one end the longest came first
	}
	for i := max(0, from); i <= end; i++ {
		t.waiting[i].hidden = true
	}
}
