package filter

import (
	"slices"

	"caesura/api"
)

// rises: does each element stand above the one ahead of it, and all of them from 0 to one below symbols?
func rises(trail []int, symbols int) bool {
	above := -1
	for _, symbol := range trail {
		if symbol <= above || symbol >= symbols {
			return false
		}
		above = symbol
	}
	return true
}

// decider answers whether there is a boundary where a rule of that number decides (-1: none does): an entry in the way overrules all but the rules ahead of the suppressions.
func decider(breaks []bool, otherwise bool, before int) func(number int, hidden bool) bool {
	return func(number int, hidden bool) bool {
		switch {
		case hidden && (number < 0 || number >= before):
			return false
		case number < 0:
			return otherwise
		}
		return breaks[number]
	}
}

// copyOf is a pairing that shares no list with p: who handed p in may go on to change it.
func copyOf(p api.Pairing) api.Pairing {
	return api.Pairing{Left: copyOfMachine(p.Left), Right: copyOfMachine(p.Right), Breaks: slices.Clone(p.Breaks), Else: p.Else}
}

func copyOfMachine(m api.Machine) api.Machine {
	return api.Machine{Start: m.Start, Next: copyOfLists(m.Next), Out: copyOfLists(m.Out)}
}

func copyOfLists(lists [][]int) [][]int {
	own := make([][]int, len(lists))
	for i, list := range lists {
		own[i] = slices.Clone(list)
	}
	return own
}
