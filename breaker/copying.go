package breaker

import (
	"slices"

	"caesura/api"
)

// copyOf is tables of which no list is another's: who is handed them may write into them.
func copyOf(t api.Tables) api.Tables {
	t.Names = slices.Clone(t.Names)
	t.Spans = slices.Clone(t.Spans)
	t.Letters = slices.Clone(t.Letters)
	t.Plain = copyOfPairing(t.Plain)
	t.Merged = copyOfPairing(t.Merged)
	t.Trail = slices.Clone(t.Trail)
	t.Entries = slices.Clone(t.Entries)
	return t
}

func copyOfPairing(p api.Pairing) api.Pairing {
	p.Left = copyOfMachine(p.Left)
	p.Right = copyOfMachine(p.Right)
	p.Breaks = slices.Clone(p.Breaks)
	return p
}

func copyOfMachine(m api.Machine) api.Machine {
	m.Next = copyOfRows(m.Next)
	m.Out = copyOfRows(m.Out)
	return m
}

func copyOfRows(rows [][]int) [][]int {
	list := make([][]int, len(rows))
	for i, row := range rows {
		list[i] = slices.Clone(row)
	}
	return list
}
