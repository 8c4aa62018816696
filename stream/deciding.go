package stream

import "caesura/api"

// plain is the rules' pairing, and how many of the rules stand ahead of the suppressions (-1: there are none).
type plain struct {
	api.Pairing
	before int
}

// number is the least number that both states tell; -1, if there is none.
func (p *plain) number(ahead, behind int) int {
	left, right := p.Left.Out[ahead], p.Right.Out[behind]
	for len(left) > 0 && len(right) > 0 {
		switch {
		case left[0] < right[0]:
			left = left[1:]
		case left[0] > right[0]:
			right = right[1:]
		default:
			return left[0]
		}
	}
	return -1
}

// remembered is number for a walk through many places: there few pairs of states come again and again, and what they tell may be long.
func (p *plain) remembered() func(ahead, behind int) int {
	known := map[[2]int]int{}
	return func(ahead, behind int) int {
		states := [2]int{ahead, behind}
		number, met := known[states]
		if !met {
			number = p.number(ahead, behind)
			known[states] = number
		}
		return number
	}
}

// says: does a number say a boundary?
func (p *plain) says(number int) bool {
	if number < 0 {
		return p.Else
	}
	return p.Breaks[number]
}

// isLast: is there no entry that overrules what a number says?
func (p *plain) isLast(number int) bool {
	return p.before < 0 || number >= 0 && number < p.before
}
