package minimal_test

import (
	"fmt"
	"math/rand"
	"slices"

	"caesura/api"
)

func list(l ...int) []int        { return l }
func lists(l ...[]int) [][]int   { return l }
func brief(m api.Machine) string { return fmt.Sprint(m.Start, " ", m.Next, " ", m.Out) }

func machineOf(start int, next [][]int, out ...[]int) api.Machine {
	return api.Machine{Start: start, Next: next, Out: out}
}

func copyOf(m api.Machine) api.Machine {
	c := api.Machine{Start: m.Start}
	for _, row := range m.Next {
		c.Next = append(c.Next, slices.Clone(row))
	}
	for _, row := range m.Out {
		c.Out = append(c.Out, slices.Clone(row))
	}
	return c
}

func equal(a, b api.Machine) bool {
	return a.Start == b.Start && slices.EqualFunc(a.Next, b.Next, slices.Equal) && slices.EqualFunc(a.Out, b.Out, slices.Equal)
}

// mayBe is the chapter's paragraph.
func mayBe(m api.Machine, symbols int) bool {
	ok := symbols >= 0 && len(m.Next) >= 1 && len(m.Out) == len(m.Next) && m.Start >= 0 && m.Start < len(m.Next)
	for _, row := range m.Next {
		ok = ok && len(row) == symbols
		for _, to := range row {
			ok = ok && to >= 0 && to < len(m.Next)
		}
	}
	for _, row := range m.Out {
		for i, n := range row {
			ok = ok && n >= 0 && (i == 0 || row[i-1] < n)
		}
	}
	return ok
}

// inOrder is the states of a machine that are met, numbered in the one order.
func inOrder(m api.Machine) api.Machine {
	number := map[int]int{m.Start: 0}
	met := list(m.Start)
	var c api.Machine
	for i := 0; i < len(met); i++ {
		var row []int
		for _, to := range m.Next[met[i]] {
			if _, ok := number[to]; !ok {
				number[to] = len(met)
				met = append(met, to)
			}
			row = append(row, number[to])
		}
		c.Next, c.Out = append(c.Next, row), append(c.Out, m.Out[met[i]])
	}
	return c
}

// unlike says of each two states whether some word tells them apart: pair by pair, as long as there is a new one.
func unlike(m api.Machine) [][]bool {
	table := make([][]bool, len(m.Next))
	for p := range table {
		table[p] = make([]bool, len(m.Next))
		for q := range table {
			table[p][q] = !slices.Equal(m.Out[p], m.Out[q])
		}
	}
	for more := true; more; {
		more = false
		for p := range table {
			for q := range table {
				for x := range m.Next[p] {
					if !table[p][q] && table[m.Next[p][x]][m.Next[q][x]] {
						table[p][q], more = true, true
					}
				}
			}
		}
	}
	return table
}

// least is P13.1 by its words: each state is taken for the first that tells the same.
func least(m api.Machine) api.Machine {
	table := unlike(m)
	first := func(s int) int { return slices.Index(table[s], false) }
	c := api.Machine{Start: first(m.Start), Out: m.Out}
	for _, row := range m.Next {
		var firsts []int
		for _, to := range row {
			firsts = append(firsts, first(to))
		}
		c.Next = append(c.Next, firsts)
	}
	return inOrder(c)
}

// apart is P13.3 by its words: all pairs of states that a word leads to, shorter words first.
func apart(a, b api.Machine) ([]int, bool) {
	type pair struct{ a, b int }
	word := map[pair][]int{{a.Start, b.Start}: {}}
	queue := []pair{{a.Start, b.Start}}
	for i := 0; i < len(queue); i++ {
		p := queue[i]
		if !slices.Equal(a.Out[p.a], b.Out[p.b]) {
			return word[p], true
		}
		for x, to := range a.Next[p.a] {
			q := pair{to, b.Next[p.b][x]}
			if _, ok := word[q]; !ok {
				word[q] = append(slices.Clone(word[p]), x)
				queue = append(queue, q)
			}
		}
	}
	return nil, false
}

// told is what is told behind a word.
func told(m api.Machine, word []int) []int {
	at := m.Start
	for _, x := range word {
		at = m.Next[at][x]
	}
	return m.Out[at]
}

// words is all words of up to so many symbols, shorter ones first, then by their symbols from the left.
func words(symbols, most int) [][]int {
	all := lists(nil)
	for from := 0; most > 0; most-- {
		to := len(all)
		for _, w := range all[from:to] {
			for x := range symbols {
				all = append(all, append(slices.Clone(w), x))
			}
		}
		from = to
	}
	return all
}

// sample is a machine of up to so many states, with few kinds of Out, so that many states tell the same.
func sample(r *rand.Rand, states, symbols int) api.Machine {
	outs := lists(nil, list(0), list(0, 3), list(7), list(128), list(0, 1, 2))[:1+r.Intn(6)]
	n := 1 + r.Intn(states)
	m := api.Machine{Start: r.Intn(n)}
	near := r.Intn(3)
	for s := range n {
		row := make([]int, symbols)
		for x := range row {
			switch near {
			case 0:
				row[x] = r.Intn(n)
			case 1:
				row[x] = (s + r.Intn(3)) % n
			default:
				row[x] = (s + 1 + x) % n
			}
		}
		m.Next, m.Out = append(m.Next, row), append(m.Out, slices.Clone(outs[r.Intn(len(outs))]))
	}
	return m
}

// blown is a machine that says the same and has more states: each state as often as it says, in any order, and some that are not met.
func blown(r *rand.Rand, m api.Machine, times int) api.Machine {
	old := len(m.Next)
	place := r.Perm(old*times + 2)
	c := api.Machine{Next: make([][]int, len(place)), Out: make([][]int, len(place))}
	for i, at := range place {
		s := i % old
		row := make([]int, len(m.Next[s]))
		for x, to := range m.Next[s] {
			row[x] = place[to+old*r.Intn(times)]
		}
		c.Next[at], c.Out[at] = row, slices.Clone(m.Out[s])
	}
	c.Start = place[m.Start+old*r.Intn(times)]
	return c
}
