package minimal

import (
	"slices"

	"caesura/api"
)

// whole is the states of a machine that some word leads to, numbered in the one order. A cell is a state and a symbol: the state's number times symbols, and the symbol.
type whole struct {
	symbols int
	next    []int   // of each cell
	out     [][]int // of each state; the rows are those of the machine
}

func wholeOf(m api.Machine, symbols int) *whole {
	w := &whole{symbols: symbols}
	numbers := make([]int, len(m.Next)) // one above the number, 0 of a state that is not met
	met := []int{m.Start}
	numbers[m.Start] = 1
	for at := range len(m.Next) {
		if at == len(met) {
			break
		}
		w.out = append(w.out, m.Out[met[at]])
		for _, to := range m.Next[met[at]] {
			if numbers[to] == 0 {
				met = append(met, to)
				numbers[to] = len(met)
			}
			w.next = append(w.next, numbers[to]-1)
		}
	}
	return w
}

// joined is the machine that has a state for each class. A class is met where the first of its states is, so the states of the least machine stand in the one order, if classes are numbered as they come.
func (w *whole) joined(class []int) api.Machine {
	numbers := make([]int, len(class)) // of each class, one above its number
	var first []int                    // of each number the first state
	for state, c := range class {
		if numbers[c] == 0 {
			first = append(first, state)
			numbers[c] = len(first)
		}
	}
	m := api.Machine{Next: make([][]int, len(first)), Out: make([][]int, len(first))}
	for n, state := range first {
		m.Out[n] = slices.Clone(w.out[state])
		row := make([]int, w.symbols)
		for symbol, to := range w.next[state*w.symbols : (state+1)*w.symbols] {
			row[symbol] = numbers[class[to]] - 1
		}
		m.Next[n] = row
	}
	return m
}

// into is for each state the cells that lead to it: those of state s are cells[ends[s-1]:ends[s]], rising.
type into struct {
	cells, ends []int
}

func (w *whole) into() *into {
	i := &into{cells: make([]int, len(w.next)), ends: make([]int, len(w.out)+1)}
	for _, to := range w.next {
		i.ends[to+1]++
	}
	for s := range w.out {
		i.ends[s+1] += i.ends[s]
	}
	for cell, to := range w.next {
		i.cells[i.ends[to]] = cell
		i.ends[to]++
	}
	return i
}

func (i *into) of(state int) []int {
	if state == 0 {
		return i.cells[:i.ends[0]]
	}
	return i.cells[i.ends[state-1]:i.ends[state]]
}
