package places

import "caesura/api"

// hasMore: have the lists more than so many elements together?
func hasMore(lists [][]int, most int) bool {
	for _, list := range lists {
		most -= len(list)
		if most < 0 {
			return true
		}
	}
	return false
}

// rises: does a list rise, from 0 to one below end?
func rises(list []int, end int) bool {
	low := 0
	for _, n := range list {
		if n < low || n >= end {
			return false
		}
		low = n + 1
	}
	return true
}

func allRise(lists [][]int, end int) bool {
	for _, list := range lists {
		if !rises(list, end) {
			return false
		}
	}
	return true
}

// placesRise: are First, Last and Follow rising lists of places?
func placesRise(p api.Positions) bool {
	places := len(p.Letters)
	return rises(p.First, places) && rises(p.Last, places) && allRise(p.Follow, places)
}

func lieBelow(list []int, end int) bool {
	for _, n := range list {
		if n < 0 || n >= end {
			return false
		}
	}
	return true
}

// placesStand: do First, Last and Follow name places alone, in whatever order?
func placesStand(p api.Positions) bool {
	places := len(p.Letters)
	for _, list := range p.Follow {
		if !lieBelow(list, places) {
			return false
		}
	}
	return lieBelow(p.First, places) && lieBelow(p.Last, places)
}

func copyOf(list []int) []int {
	other := make([]int, len(list))
	copy(other, list)
	return other
}

func copied(lists [][]int) [][]int {
	others := make([][]int, len(lists))
	for i, list := range lists {
		others[i] = copyOf(list)
	}
	return others
}

// turned has x in the list of y, where y was in the list of x. The x come rising, so the new lists rise.
func turned(follow [][]int) [][]int {
	sizes := make([]int, len(follow))
	for _, list := range follow {
		for _, y := range list {
			sizes[y]++
		}
	}
	lists := make([][]int, len(follow))
	for y, size := range sizes {
		lists[y] = make([]int, 0, size)
	}
	for x, list := range follow {
		for _, y := range list {
			lists[y] = append(lists[y], x)
		}
	}
	return lists
}
