package pair

import (
	"slices"

	"caesura/api"
)

// symbolsOf is as many as the first list of Left.Next has elements.
func symbolsOf(p api.Pairing) int {
	if len(p.Left.Next) == 0 {
		return 0
	}
	return len(p.Left.Next[0])
}

func allBelow(word []int, symbols int) bool {
	for _, symbol := range word {
		if symbol < 0 || symbol >= symbols {
			return false
		}
	}
	return true
}

// firstOf answers what decides between two states. What both tell is looked for once: in a text few pairs of states come again and again, and their lists may be long.
func firstOf(p api.Pairing) func(ahead, behind int) int {
	known := map[[2]int]int{}
	return func(ahead, behind int) int {
		states := [2]int{ahead, behind}
		number, met := known[states]
		if !met {
			number = leastOfBoth(p.Left.Out[ahead], p.Right.Out[behind])
			known[states] = number
		}
		return number
	}
}

// leastOfBoth is the least number that two rising lists have; -1, if there is none.
func leastOfBoth(a, b []int) int {
	for len(a) > 0 && len(b) > 0 {
		if a[0] == b[0] {
			return a[0]
		}
		low := max(a[0], b[0])
		a, b = startingAt(a, low), startingAt(b, low)
	}
	return -1
}

// startingAt is a rising list without what is below low. It looks at the first, the second, the fourth number and so on, as one list may be long where the other one is short.
func startingAt(list []int, low int) []int {
	end := 1
	for end < len(list) && list[end-1] < low {
		end *= 2
	}
	at, _ := slices.BinarySearch(list[:min(end, len(list))], low)
	return list[at:]
}

func saysBreak(p api.Pairing, number int) bool {
	if number < 0 {
		return p.Else
	}
	return p.Breaks[number]
}
