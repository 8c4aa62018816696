package minimal

import "caesura/api"

// mayBe: may a machine be so, over so many symbols?
func mayBe(m api.Machine, symbols int) bool {
	states := len(m.Next)
	if symbols < 0 || len(m.Out) != states || !isOneOf(m.Start, states) {
		return false
	}
	for s := range states {
		if len(m.Next[s]) != symbols || !allOf(m.Next[s], states) || !rises(m.Out[s]) {
			return false
		}
	}
	return true
}

// isOneOf: is it a number from 0 to one below count?
func isOneOf(n, count int) bool { return n >= 0 && n < count }

func allOf(list []int, count int) bool {
	for _, n := range list {
		if !isOneOf(n, count) {
			return false
		}
	}
	return true
}

// rises: does a list rise, from 0 on?
func rises(list []int) bool {
	last := -1
	for _, n := range list {
		if n <= last {
			return false
		}
		last = n
	}
	return true
}
