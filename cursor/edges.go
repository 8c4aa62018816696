package cursor

import (
	"sort"

	"caesura/api"
)

// edges are the boundaries of a text, rising. They are never changed, so that functions may be bound to them.
type edges []int

// steps are the ways from one boundary's number to another's. They know the boundaries and not the cursor: the place is the cursor's alone.
type steps struct {
	next, previous, move func(place, n int) int
}

func stepsAmong(all edges) steps {
	return steps{next: all.by, previous: all.by, move: all.by}
}

// by is the number of the boundary n behind that of number place, ahead of it if n is below 0; -1: there are not so many.
func (e edges) by(place, n int) int {
	// The sum of both is made only where it fits: n is any int.
	if n < -place || n >= len(e)-place {
		return -1
	}
	return place + n
}

// first is the number of the first boundary for which above holds, or how many there are. above must hold for all behind that one.
func (e edges) first(above func(offset int) bool) int {
	return sort.Search(len(e), func(i int) bool { return above(e[i]) })
}

func (e edges) has(place int) bool { return place >= 0 && place < len(e) }

// offset is Done, if there is no boundary of that number.
func (e edges) offset(place int) int {
	if !e.has(place) {
		return api.Done
	}
	return e[place]
}
