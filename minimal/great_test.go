package minimal_test

import (
	"math/rand"
	"slices"
	"testing"

	"caesura/api"
	"caesura/minimal"
)

// chain tells 1 at the last of so many states alone; each state is told from the next one by a word as long as what is left.
func chain(states, symbols int) api.Machine {
	m := api.Machine{Out: make([][]int, states)}
	for s := range states {
		row := make([]int, symbols)
		row[symbols-1] = min(s+1, states-1)
		m.Next = append(m.Next, row)
	}
	m.Out[states-1] = list(1)
	return m
}

func TestP13_1_LongChain(t *testing.T) {
	for _, c := range []struct{ states, symbols int }{{200000, 2}, {16384, 256}, {100000, 1}} {
		m := chain(c.states, c.symbols)
		if !minimal.Is(m, c.symbols) {
			t.Errorf("P13.2: a chain of %d is the least machine", c.states)
		}
		if _, found := wordOf(t, m, m, c.symbols); found {
			t.Error("P13.3: a machine is told from itself")
		}
		other := copyOf(m)
		other.Out[c.states-1] = list(2)
		word, found := wordOf(t, m, other, c.symbols)
		if !found || !slices.Equal(word, slices.Repeat(list(c.symbols-1), c.states-1)) {
			t.Errorf("P13.3: a word of %d symbols, %v", len(word), found)
		}
	}
}

// Two rings that tell the same at each round and have no common length meet in more pairs than can be looked at one by one.
func TestP13_3_Rings(t *testing.T) {
	ring := func(n, last int) api.Machine {
		m := api.Machine{Out: make([][]int, n)}
		for s := range n {
			m.Next = append(m.Next, list((s+1)%n, (s*s+s+1)%n))
		}
		m.Out[n-1] = list(last)[:min(last, 1)]
		return m
	}
	a, b := ring(40009, 0), ring(40013, 0)
	if word, found := wordOf(t, a, b, 2); found {
		t.Errorf("P13.3: a word of %d symbols", len(word))
	}
	if got := leastOf(t, a, 2); len(got.Next) != 1 {
		t.Errorf("P13.1: %d states, want 1", len(got.Next))
	}
	if _, found := wordOf(t, a, ring(40013, 1), 2); !found {
		t.Error("P13.3: nothing tells them apart")
	}
}

func TestP13_1_Great(t *testing.T) {
	r := rand.New(rand.NewSource(137))
	small := sample(r, 1, 256)
	for len(small.Next) < 1024 {
		small = sample(r, 2000, 256)
	}
	want := leastOf(t, small, 256)
	if got := leastOf(t, blown(r, small, 16384/len(small.Next)), 256); !equal(got, want) {
		t.Errorf("P13.4: %d states, want %d", len(got.Next), len(want.Next))
	}
	wide := sample(r, 256, 16384)
	if got := leastOf(t, wide, 16384); !equal(got, inOrder(got)) || !minimal.Is(got, 16384) {
		t.Errorf("P13.4: %d states of %d", len(got.Next), len(wide.Next))
	}
}
