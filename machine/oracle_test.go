package machine_test

import (
	"fmt"
	"math/rand"
	"slices"
	"testing"

	"caesura/api"
	"caesura/places"
)

// brief shows the beginning of what may be great.
func brief(x any) string {
	text := fmt.Sprint(x)
	return text[:min(len(text), 400)]
}

func list(n ...int) []int { return n }

func lists(n ...[]int) [][]int { return n }

// equal holds machines against each other; nil and empty lists are the same.
func equal(x, y api.Machine) bool {
	return x.Start == y.Start && slices.EqualFunc(x.Next, y.Next, slices.Equal) && slices.EqualFunc(x.Out, y.Out, slices.Equal)
}

// chain is met by the words whose symbols are among these letters, one behind the other.
func chain(anchored bool, letters ...[]int) api.Pattern {
	p := api.Positions{Letters: letters, First: list(0), Last: list(len(letters) - 1), Follow: make([][]int, len(letters))}
	for i := range len(letters) - 1 {
		p.Follow[i] = list(i + 1)
	}
	return api.Pattern{Positions: p, Anchored: anchored}
}

func one(anchored bool, letters ...int) api.Pattern { return chain(anchored, letters) }

func empty(anchored bool) api.Pattern {
	return api.Pattern{Positions: api.Positions{Empty: true}, Anchored: anchored}
}

// stand is where each pattern stands, and whether nothing was read, as the chapter says it.
type stand struct {
	start bool
	at    []map[int]bool
}

func (s stand) text() string { return fmt.Sprint(s.start, s.at) }

func startOf(l []api.Pattern) stand {
	s := stand{start: true}
	for range l {
		s.at = append(s.at, map[int]bool{})
	}
	return s
}

func (s stand) read(l []api.Pattern, symbol int) stand {
	next := startOf(l)
	next.start = false
	for k, p := range l {
		for q, letters := range p.Positions.Letters {
			if !slices.Contains(letters, symbol) {
				continue
			}
			reached := slices.Contains(p.Positions.First, q) && (!p.Anchored || s.start)
			for x := range s.at[k] {
				reached = reached || slices.Contains(p.Positions.Follow[x], q)
			}
			if reached {
				next.at[k][q] = true
			}
		}
	}
	return next
}

func (s stand) out(l []api.Pattern) []int {
	var out []int
	for k, p := range l {
		ends := p.Positions.Empty && (!p.Anchored || s.start)
		for _, q := range p.Positions.Last {
			ends = ends || s.at[k][q]
		}
		if ends {
			out = append(out, k)
		}
	}
	return out
}

// expected is the machine of patterns by the chapter's words; false, if it has more states than most.
func expected(l []api.Pattern, symbols, most int) (api.Machine, bool) {
	states := []stand{startOf(l)}
	numbers := map[string]int{states[0].text(): 0}
	var m api.Machine
	for i := 0; i < len(states); i++ {
		m.Out = append(m.Out, states[i].out(l))
		var row []int
		for c := range symbols {
			s := states[i].read(l, c)
			n, met := numbers[s.text()]
			if !met {
				n = len(states)
				numbers[s.text()] = n
				states = append(states, s)
			}
			row = append(row, n)
		}
		m.Next = append(m.Next, row)
		if len(states) > most {
			return api.Machine{}, false
		}
	}
	return m, true
}

// endBehind is the patterns that end behind a word: a piece at its end is matched.
func endBehind(l []api.Pattern, word []int) []int {
	var out []int
	for k, p := range l {
		for from := 0; from <= len(word); from++ {
			if places.Match(p.Positions, word[from:]) && (from == 0 || !p.Anchored) {
				out = append(out, k)
				break
			}
		}
	}
	return out
}

// some is a rising list of numbers below end.
func some(r *rand.Rand, end, of int) []int {
	var l []int
	for n := range end {
		if r.Intn(of) == 0 {
			l = append(l, n)
		}
	}
	return l
}

// sample is a pattern of so many places.
func sample(r *rand.Rand, size, symbols int) api.Pattern {
	p := api.Positions{First: some(r, size, 2), Last: some(r, size, 3), Empty: r.Intn(4) == 0}
	for range size {
		p.Letters = append(p.Letters, some(r, symbols, 2))
		p.Follow = append(p.Follow, some(r, size, 1+size/2))
	}
	return api.Pattern{Positions: p, Anchored: r.Intn(3) == 0}
}

func samples(r *rand.Rand, symbols int) []api.Pattern {
	var l []api.Pattern
	for range r.Intn(5) {
		l = append(l, sample(r, r.Intn(6), symbols))
	}
	return l
}

func sampleWord(r *rand.Rand, symbols, most int) []int {
	word := make([]int, r.Intn(most+1))
	for i := range word {
		word[i] = r.Intn(symbols)
	}
	return word
}

// padded is many places ahead of others, so that these lie in later words of bits.
func padded(n int) api.Pattern {
	letters := make([][]int, n)
	return chain(true, letters...)
}

func refuseBuild(t *testing.T, what string, want, err error, m api.Machine) {
	t.Helper()
	if err != want || !equal(m, api.Machine{}) {
		t.Errorf("P12.1: %s: %s, %v, want no machine, %v", what, brief(m), err, want)
	}
}
