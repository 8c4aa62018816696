package filter

import (
	"iter"
	"slices"
)

// between goes through the places between two units, and says of each whether an entry is in the way.
func (f *Filter) between(points, word []int) iter.Seq2[int, bool] {
	return func(yield func(place int, hidden bool) bool) {
		changes := f.changes(points, word)
		inTheWay := 0
		for place := 1; place < len(word); place++ {
			inTheWay += changes[place]
			if !yield(place, inTheWay > 0) {
				return
			}
		}
	}
}

// changes says of each place how many more entries are in the way there than at the place ahead of it.
func (f *Filter) changes(points, word []int) []int {
	changes := make([]int, len(word)+2)
	if !f.suppresses {
		return changes
	}
	last := 0
	for _, found := range f.entries.All(points) {
		// Ends rise, and an end that an earlier one's trail has passed comes as far as that one: no unit is gone over twice.
		last = f.trailed(word, max(last, found.End))
		changes[found.Start+1]++
		changes[last+1]--
	}
	return changes
}

// trailed is the last place that is reached from a place on over units of trail alone.
func (f *Filter) trailed(word []int, place int) int {
	for place < len(word) && f.inTrail(word[place]) {
		place++
	}
	return place
}

func (f *Filter) inTrail(symbol int) bool {
	_, in := slices.BinarySearch(f.trail, symbol)
	return in
}
