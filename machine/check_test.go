package machine_test

import (
	"fmt"
	"math"
	"math/rand"
	"slices"
	"testing"

	"caesura/api"
	"caesura/machine"
)

func checks(t *testing.T, what string, m api.Machine, symbols, patterns int, want error) {
	t.Helper()
	if err := machine.Check(m, symbols, patterns); err != want {
		t.Errorf("P12.2: %s: Check(%s, %d, %d): %v, want %v", what, brief(m), symbols, patterns, err, want)
	}
}

func TestP12_2_Check(t *testing.T) {
	m := api.Machine{Next: lists(list(1, 2), list(1, 2), list(1, 2)), Out: lists(nil, list(0), nil)}
	for _, c := range []struct {
		symbols, patterns int
		want              error
	}{
		{2, 1, nil}, {2, 9, nil}, {2, math.MaxInt, nil}, {3, 1, api.ErrArg}, {1, 1, api.ErrArg}, {2, 0, api.ErrArg}, {2, -1, api.ErrArg}, {2, math.MinInt, api.ErrArg},
		{0, 1, api.ErrArg}, {-2, 1, api.ErrArg}, {math.MinInt, 1, api.ErrArg}, {math.MaxInt, 1, api.ErrArg},
	} {
		checks(t, "the example", m, c.symbols, c.patterns, c.want)
	}
	checks(t, "the zero machine", api.Machine{}, 2, 1, api.ErrArg)
	checks(t, "rows without symbols", api.Machine{Next: lists(nil), Out: lists(nil)}, 0, 1, api.ErrArg)
	checks(t, "Out without states", api.Machine{Out: lists(nil)}, 2, 1, api.ErrArg)
	checks(t, "no Out", api.Machine{Next: m.Next}, 2, 1, api.ErrArg)
	checks(t, "an Out too few", api.Machine{Next: m.Next, Out: m.Out[:2]}, 2, 1, api.ErrArg)
	checks(t, "an Out too many", api.Machine{Next: m.Next, Out: append(slices.Clone(m.Out), nil)}, 2, 1, api.ErrArg)
	for start, want := range map[int]error{-1: api.ErrArg, 0: nil, 1: nil, 2: nil, 3: api.ErrArg, math.MaxInt: api.ErrArg, math.MinInt: api.ErrArg} {
		checks(t, "the start", api.Machine{Start: start, Next: m.Next, Out: m.Out}, 2, 1, want)
	}
}

func TestP12_2_Lists(t *testing.T) {
	for _, c := range []struct {
		row  []int
		want error
	}{
		{list(0, 2), nil}, {list(2, 0), nil}, {list(3, 0), api.ErrArg}, {list(0, 3), api.ErrArg}, {list(0, -1), api.ErrArg}, {list(math.MinInt, 0), api.ErrArg},
		{nil, api.ErrArg}, {list(0), api.ErrArg}, {list(0, 0, 0), api.ErrArg},
	} {
		for s := range 3 {
			next := lists(list(1, 2), list(1, 2), list(1, 2))
			next[s] = c.row
			checks(t, fmt.Sprint("the row of ", s), api.Machine{Next: next, Out: lists(nil, list(0), nil)}, 2, 1, c.want)
		}
	}
	for _, c := range []struct {
		out  []int
		want error
	}{
		{nil, nil}, {list(0), nil}, {list(3), nil}, {list(0, 1, 2, 3), nil}, {list(0, 3), nil}, {list(4), api.ErrArg}, {list(0, 4), api.ErrArg}, {list(-1), api.ErrArg},
		{list(-1, 0), api.ErrArg}, {list(1, 1), api.ErrArg}, {list(2, 1), api.ErrArg}, {list(0, 2, 1), api.ErrArg}, {list(math.MaxInt), api.ErrArg}, {list(math.MinInt), api.ErrArg},
	} {
		for s := range 3 {
			out := make([][]int, 3)
			out[s] = c.out
			checks(t, fmt.Sprint("the Out of ", s), api.Machine{Next: lists(list(1, 2), list(1, 2), list(1, 2)), Out: out}, 2, 4, c.want)
		}
	}
}

func TestP12_2_Limits(t *testing.T) {
	flat := func(states, symbols int) api.Machine {
		return api.Machine{Next: slices.Repeat(lists(make([]int, symbols)), states), Out: make([][]int, states)}
	}
	checks(t, "MaxStates", flat(16384, 1), 1, 0, nil)
	checks(t, "a state too many", flat(16385, 1), 1, 0, api.ErrArg)
	checks(t, "MaxSymbols", flat(1, 16384), 16384, 0, nil)
	checks(t, "a symbol too many", flat(1, 16385), 16385, 0, api.ErrArg)
	checks(t, "MaxCells", flat(16384, 256), 256, 0, nil)
	checks(t, "a column too many", flat(16384, 257), 257, 0, api.ErrArg)
	checks(t, "MaxCells", flat(256, 16384), 16384, 0, nil)
	checks(t, "a row too many", flat(257, 16384), 16384, 0, api.ErrArg)
}

// Any numbers: no call panics, and Check asks for just what the chapter says.
func TestP12_5_AnyValues(t *testing.T) {
	r := rand.New(rand.NewSource(125))
	few := func(most int) []int {
		l := make([]int, r.Intn(most+1))
		for i := range l {
			l[i] = r.Intn(4) - r.Intn(2)
		}
		return l
	}
	for range 20000 {
		m := api.Machine{Start: r.Intn(4) - 1}
		for range r.Intn(4) {
			m.Next, m.Out = append(m.Next, few(2)), append(m.Out, few(2))
		}
		symbols, patterns := r.Intn(4)-1, r.Intn(4)-1
		if err := machine.Check(m, symbols, patterns); (err == nil) != mayBe(m, symbols, patterns) {
			t.Fatalf("P12.2: Check(%v, %d, %d): %v", m, symbols, patterns, err)
		}
		word := few(4)
		states, err := machine.Run(m, word)
		if want := walked(m, word); !slices.Equal(states, want) || (err == nil) != (want != nil) || (err != nil && err != api.ErrArg) {
			t.Fatalf("P12.3: Run(%v, %v) = %v, %v, want %v", m, word, states, err, want)
		}
	}
}

func mayBe(m api.Machine, symbols, patterns int) bool {
	ok := symbols >= 1 && patterns >= 0 && len(m.Next) > 0 && m.Start >= 0 && m.Start < len(m.Next)
	for _, row := range m.Next {
		ok = ok && len(row) == symbols && slices.Min(row) >= 0 && slices.Max(row) < len(m.Next)
	}
	for _, out := range m.Out {
		ok = ok && slices.IsSorted(out) && len(slices.Compact(slices.Clone(out))) == len(out)
		ok = ok && (len(out) == 0 || out[0] >= 0 && out[len(out)-1] < patterns)
	}
	return ok
}

// walked is what Run answers, nil of what may not be read.
func walked(m api.Machine, word []int) (states []int) {
	defer func() {
		if recover() != nil {
			states = nil
		}
	}()
	at := m.Start
	_ = m.Next[at]
	states = list(at)
	for _, symbol := range word {
		at = m.Next[at][symbol]
		_ = m.Next[at]
		states = append(states, at)
	}
	return states
}
