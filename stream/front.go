package stream

import (
	"iter"
	"slices"

	"caesura/api"
)

// front is the states in one of which the right machine is at a place, whatever comes: those to which it comes there from all of its states.
type front struct {
	next          [][]int
	states, spare map[int]struct{}
}

func frontOf(m api.Machine) front {
	return front{next: m.Next, states: map[int]struct{}{}, spare: map[int]struct{}{}}
}

// back goes from the last place, behind which all is open, to the first one, and says at which place the front is; not at the last itself.
func (f *front) back(places []place) iter.Seq[int] {
	return func(yield func(int) bool) {
		last := len(places) - 1
		for i := last - 1; i >= 0; i-- {
			if i == last-1 {
				f.start(places[i].symbol)
			} else {
				f.step(places[i].symbol)
			}
			if !yield(i) {
				return
			}
		}
	}
}

// start goes on from all states. They do not become a map themselves: it would stay great, and each clear would be slow.
func (f *front) start(symbol int) {
	clear(f.states)
	for _, row := range f.next {
		f.states[row[symbol]] = struct{}{}
	}
}

func (f *front) step(symbol int) {
	clear(f.spare)
	for state := range f.states {
		f.spare[f.next[state][symbol]] = struct{}{}
	}
	f.states, f.spare = f.spare, f.states
}

// agree is the one number that all states of the front come to; false: they come to several.
func (f *front) agree(number func(state int) int) (int, bool) {
	one, met := 0, false
	for state := range f.states {
		n := number(state)
		if met && n != one {
			return 0, false
		}
		one, met = n, true
	}
	return one, met
}

// onward: numbers are those that a place has for the states at the first of these places; the answer are those for the states at the last one. Once all are the same it is no matter for which.
func (f *front) onward(numbers []int, places []place) []int {
	then := make([]int, len(numbers))
	for _, p := range places[:len(places)-1] {
		if allSame(numbers) {
			break
		}
		for state, row := range f.next {
			then[state] = numbers[row[p.symbol]]
		}
		numbers, then = then, numbers
	}
	return numbers
}

func allSame(numbers []int) bool {
	return !slices.ContainsFunc(numbers, func(n int) bool { return n != numbers[0] })
}
