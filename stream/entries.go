package stream

import (
	"slices"
	"sort"

	"caesura/api"
	"caesura/trie"
	"caesura/units"
)

// entries is what a splitter suppresses, and the end of the text so far as an entry that is not whole yet may stand there.
type entries struct {
	points [][]int // of each entry, rising
	tree   *trie.Trie
	trail  []int
	most   int   // how many points an entry has that is not whole, at most
	recent []int // the points of so many units at the text's end, or of all
}

func entriesOf(t api.Tables) entries {
	e := entries{trail: t.Trail}
	for _, text := range t.Entries {
		points := pointsOf(units.Split(text))
		e.points = append(e.points, points)
		e.most = max(e.most, len(points)-1)
	}
	// The entries of a splitter may be, so they are never refused.
	e.tree, _ = trie.New(e.points)
	return e
}

func pointsOf(list []api.Unit) []int {
	points := make([]int, len(list))
	for i, u := range list {
		points[i] = u.Point
	}
	return points
}

// wordWith is the points of the text's end, and of new units behind it.
func (e *entries) wordWith(list []api.Unit) []int {
	return append(slices.Clone(e.recent), pointsOf(list)...)
}

func (e *entries) keepEnd(word []int) {
	e.recent = slices.Clone(word[max(0, len(word)-e.most):])
}

func (e *entries) inTrail(symbol int) bool {
	_, in := slices.BinarySearch(e.trail, symbol)
	return in
}

// mayCover: may an entry come to be whole that begins further back than so many units from the end?
func (e *entries) mayCover(behind int) bool {
	for count := behind + 1; count <= len(e.recent); count++ {
		if e.isBeginning(e.recent[len(e.recent)-count:]) {
			return true
		}
	}
	return false
}

// isBeginning: is the word the beginning of a longer entry? If it is of any, then of the first one above it.
func (e *entries) isBeginning(word []int) bool {
	at := sort.Search(len(e.points), func(i int) bool { return slices.Compare(e.points[i], word) > 0 })
	return at < len(e.points) && len(e.points[at]) > len(word) && slices.Equal(e.points[at][:len(word)], word)
}
