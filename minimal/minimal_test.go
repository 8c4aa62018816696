package minimal_test

import (
	"fmt"
	"math"
	"math/rand"
	"slices"
	"testing"

	"caesura/api"
	"caesura/minimal"
)

func leastOf(t *testing.T, m api.Machine, symbols int) api.Machine {
	t.Helper()
	c, err := minimal.Of(m, symbols)
	if err != nil {
		t.Fatalf("P13.1: Of(%s, %d): %v", brief(m), symbols, err)
	}
	return c
}

func is(t *testing.T, m api.Machine, symbols int, want bool) {
	t.Helper()
	if minimal.Is(m, symbols) != want {
		t.Errorf("P13.2: Is(%s, %d) is not %v", brief(m), symbols, want)
	}
}

func wordOf(t *testing.T, a, b api.Machine, symbols int) ([]int, bool) {
	t.Helper()
	word, found, err := minimal.Apart(a, b, symbols)
	if err != nil || !found && len(word) != 0 {
		t.Fatalf("P13.3: Apart(%s, %s, %d) = %v, %v, %v", brief(a), brief(b), symbols, word, found, err)
	}
	return word, found
}

func refused(t *testing.T, what string, m api.Machine, symbols int) {
	t.Helper()
	good := machineOf(0, lists(list(0, 0)), nil)
	if c, err := minimal.Of(m, symbols); err != api.ErrArg || c.Start != 0 || c.Next != nil || c.Out != nil {
		t.Errorf("P13.1: %s: Of = %s, %v", what, brief(c), err)
	}
	if minimal.Is(m, symbols) {
		t.Errorf("P13.2: %s: Is is true", what)
	}
	for i, two := range [][2]api.Machine{{m, good}, {good, m}, {m, m}} {
		if word, found, err := minimal.Apart(two[0], two[1], symbols); err != api.ErrArg || found || len(word) != 0 {
			t.Errorf("P13.3: %s: Apart, number %d: %v, %v, %v", what, i, word, found, err)
		}
	}
}

func TestP13_1_Examples(t *testing.T) {
	third := machineOf(0, lists(list(1, 0), list(1, 0), list(2, 2)), nil, list(5), list(7))
	nothing := machineOf(0, lists(list(0, 0)), nil)
	for _, c := range [][2]api.Machine{
		{nothing, nothing},
		{machineOf(0, lists(list(1, 1), list(0, 0)), nil, nil), nothing},
		{third, machineOf(0, lists(list(1, 0), list(1, 0)), nil, list(5))},
		{machineOf(1, lists(list(1, 0), list(0, 1)), list(5), nil), machineOf(0, lists(list(1, 0), list(0, 1)), nil, list(5))},
	} {
		m, want := c[0], c[1]
		if got := leastOf(t, m, 2); !equal(got, want) {
			t.Errorf("P13.1: Of(%s) = %s, want %s", brief(m), brief(got), brief(want))
		}
		is(t, m, 2, equal(m, want))
		is(t, want, 2, true)
		if word, found := wordOf(t, m, want, 2); found {
			t.Errorf("P13.3: %v tells %s from its Of", word, brief(m))
		}
	}
	if word, found := wordOf(t, third, nothing, 2); !found || !slices.Equal(word, list(0)) {
		t.Errorf("P13.3: %v, %v, want the word 0", word, found)
	}
	if word, found := wordOf(t, nothing, machineOf(0, lists(list(0, 0)), list(4)), 2); !found || len(word) != 0 {
		t.Errorf("P13.3: %v, %v, want the empty word", word, found)
	}
}

func TestP13_1_Refusals(t *testing.T) {
	good := func() api.Machine {
		return machineOf(1, lists(list(1, 0), list(0, 1)), list(2, 5), nil)
	}
	leastOf(t, good(), 2)
	refused(t, "no states", api.Machine{}, 2)
	refused(t, "no states over no symbols", api.Machine{}, 0)
	refused(t, "Out without states", api.Machine{Out: lists(nil)}, 0)
	for _, symbols := range []int{-1, 0, 1, 3, math.MaxInt, math.MinInt} {
		refused(t, fmt.Sprint(symbols, " symbols"), good(), symbols)
	}
	refused(t, "rows of none, symbols below 0", machineOf(0, lists(nil), nil), -1)
	for _, start := range []int{-1, 2, 3, math.MaxInt, math.MinInt} {
		m := good()
		m.Start = start
		refused(t, fmt.Sprint("Start ", start), m, 2)
	}
	for _, out := range [][][]int{nil, lists(nil), lists(nil, nil, nil)} {
		refused(t, fmt.Sprint(len(out), " rows of Out"), machineOf(1, good().Next, out...), 2)
	}
	for s := range 2 {
		for _, row := range lists(nil, list(0), list(0, 0, 0), list(0, 2), list(2, 0), list(-1, 0), list(0, -1), list(math.MinInt, 0), list(0, math.MaxInt)) {
			m := good()
			m.Next[s] = row
			refused(t, fmt.Sprint("the row ", row), m, 2)
		}
		for _, row := range lists(list(2, 1), list(-1), list(1, 1), list(-1, 0), list(0, 0), list(0, 2, 1), list(0, 2, 2), list(math.MinInt)) {
			m := good()
			m.Out[s] = row
			refused(t, fmt.Sprint("the Out ", row), m, 2)
		}
	}
	// a state that is not met must be right, too
	refused(t, "a wrong state that is not met", machineOf(0, lists(list(0, 0), list(0, 2)), nil, nil), 2)
	refused(t, "a wrong Out that is not met", machineOf(0, lists(list(0, 0), list(0, 0)), nil, list(3, 3)), 2)
}

func TestP13_1_NoSymbols(t *testing.T) {
	m := machineOf(2, lists(nil, list(), nil), list(1), nil, list(2, 9))
	want := machineOf(0, lists(nil), list(2, 9))
	if got := leastOf(t, m, 0); !equal(got, want) {
		t.Errorf("P13.1: Of(%s) = %s, want %s", brief(m), brief(got), brief(want))
	}
	is(t, m, 0, false)
	is(t, want, 0, true)
	if word, found := wordOf(t, m, want, 0); found {
		t.Errorf("P13.3: %v", word)
	}
	if word, found := wordOf(t, m, machineOf(0, lists(nil), list(2)), 0); !found || len(word) != 0 {
		t.Errorf("P13.3: %v, %v, want the empty word", word, found)
	}
}

// Outs that might be written alike, though they are not.
func TestP13_1_Outs(t *testing.T) {
	outs := lists(nil, list(0), list(1), list(0, 1), list(127), list(128), list(0, 128), list(129), list(1, 127), list(1, 128), list(255), list(256), list(1, 256), list(257), list(16383), list(16384), list(128, 129), list(16512), list(128, 16512), list(1<<32), list(1, 1<<32), list(math.MaxInt), list(0, math.MaxInt), list(math.MaxInt-1, math.MaxInt), list(1, 2), list(12), list(2, 12), list(1, 22))
	row := make([]int, len(outs))
	for i := range row {
		row[i] = i
	}
	m := machineOf(0, slices.Repeat(lists(row), len(outs)), outs...)
	if got := leastOf(t, m, len(row)); !equal(got, m) {
		t.Errorf("P13.1: Of(%s) = %s", brief(m), brief(got))
	}
	for i, a := range outs {
		for j, b := range outs {
			one := func(out []int) api.Machine { return machineOf(0, lists(list(0)), out) }
			if word, found := wordOf(t, one(a), one(b), 1); found != (i != j) || len(word) != 0 {
				t.Errorf("P13.3: %v and %v: %v, %v", a, b, word, found)
			}
		}
	}
}

// Symbols and classes above what a byte holds must not be mixed up.
func TestP13_1_ManySymbols(t *testing.T) {
	r := rand.New(rand.NewSource(1301))
	for _, symbols := range []int{1, 127, 128, 129, 300, 20000} {
		wide := api.Machine{Out: lists(nil, list(1), list(2), nil, nil, nil, nil)}
		for range wide.Out {
			wide.Next = append(wide.Next, make([]int, symbols))
		}
		// each of the last four goes to 1 by one symbol alone, or to 2
		for x := range symbols {
			wide.Next[0][x] = x % 7
		}
		wide.Next[3][symbols-1] = 1
		wide.Next[4][symbols/2] = 1
		wide.Next[5][symbols/2] = 2
		wide.Next[6][0] = 1
		if got, want := leastOf(t, wide, symbols), least(wide); !equal(got, want) {
			t.Errorf("P13.1: %d symbols: %d states, want %d", symbols, len(got.Next), len(want.Next))
		}
	}
	for range 5 {
		m := sample(r, 400, 3)
		if got, want := leastOf(t, m, 3), least(m); !equal(got, want) {
			t.Errorf("P13.1: %d states, want %d", len(got.Next), len(want.Next))
		}
	}
}

func TestP13_1_Samples(t *testing.T) {
	r := rand.New(rand.NewSource(131))
	for i := range 6000 {
		symbols := r.Intn(4)
		m := sample(r, 3+i%14, symbols)
		want := least(m)
		got := leastOf(t, m, symbols)
		if !equal(got, want) {
			t.Fatalf("P13.1: Of(%s, %d) = %s, want %s", brief(m), symbols, brief(got), brief(want))
		}
		is(t, m, symbols, equal(m, want))
		is(t, got, symbols, true)
		if met := inOrder(m); len(met.Next) == len(want.Next) && !equal(met, want) {
			t.Fatalf("P13.1: %s has as few states as %s", brief(met), brief(want))
		}
		big := blown(r, m, 1+r.Intn(4))
		if again := leastOf(t, big, symbols); !equal(again, want) {
			t.Fatalf("P13.4: Of(%s) = %s, but that of %s is %s", brief(big), brief(again), brief(m), brief(want))
		}
		if word, found := wordOf(t, big, m, symbols); found {
			t.Fatalf("P13.3: %v tells %s from %s", word, brief(big), brief(m))
		}
	}
}

// The rows as they are, numbered in another way, are the least machine no more.
func TestP13_2_Order(t *testing.T) {
	m := machineOf(0, lists(list(1, 2), list(1, 2), list(2, 1)), nil, list(1), list(2))
	is(t, m, 2, true)
	is(t, machineOf(1, lists(list(0, 2), list(0, 2), list(2, 0)), list(1), nil, list(2)), 2, false)
	is(t, machineOf(0, lists(list(2, 1), list(1, 2), list(2, 1)), nil, list(2), list(1)), 2, false)
	is(t, machineOf(0, append(copyOf(m).Next, list(0, 0)), nil, list(1), list(2), list(3)), 2, false)
	is(t, machineOf(0, lists(list(1, 2), list(1, 2), list(2, 1)), nil, list(1), list(1)), 2, false)
	is(t, machineOf(0, lists(list(1, 2), list(1, 2), list(2, 1)), list(), list(1), list(2)), 2, true)
	is(t, machineOf(0, lists(list(1), list(1)), nil, list(1)), 1, true)
	is(t, machineOf(1, lists(list(1), list(1)), nil, list(1)), 1, false)
	is(t, machineOf(1, lists(list(0), list(1)), nil, nil), 1, false)
}

func TestP13_3_Samples(t *testing.T) {
	r := rand.New(rand.NewSource(133))
	for i := range 8000 {
		symbols := r.Intn(4)
		a, b := sample(r, 2+i%9, symbols), sample(r, 2+i%11, symbols)
		if i%2 == 0 { // but for one thing the same
			b = blown(r, a, 1+r.Intn(3))
			s := r.Intn(len(b.Next))
			if symbols > 0 && i%4 == 0 {
				b.Next[s][r.Intn(symbols)] = r.Intn(len(b.Next))
			} else {
				b.Out[s] = list(r.Intn(9))
			}
		}
		want, differ := apart(a, b)
		word, found := wordOf(t, a, b, symbols)
		if found != differ || !slices.Equal(word, want) {
			t.Fatalf("P13.3: Apart(%s, %s, %d) = %v, %v, want %v, %v", brief(a), brief(b), symbols, word, found, want, differ)
		}
		if back, also := wordOf(t, b, a, symbols); also != differ || !slices.Equal(back, want) {
			t.Fatalf("P13.3: Apart(%s, %s, %d) = %v, %v, want %v, %v", brief(b), brief(a), symbols, back, also, want, differ)
		}
	}
}

// All words in their order: the first behind which unlike things are told.
func TestP13_3_Words(t *testing.T) {
	r := rand.New(rand.NewSource(1331))
	all := words(2, 9)
	for range 400 {
		a, b := sample(r, 4, 2), sample(r, 4, 2)
		word, found := wordOf(t, a, b, 2)
		first := slices.IndexFunc(all, func(w []int) bool { return !slices.Equal(told(a, w), told(b, w)) })
		if found != (first >= 0) || found && !slices.Equal(word, all[first]) {
			t.Fatalf("P13.3: Apart(%s, %s) = %v, %v, want number %d of all words", brief(a), brief(b), word, found, first)
		}
	}
}

// A shorter word goes ahead of a lesser one.
func TestP13_3_ShortestFirst(t *testing.T) {
	nothing := machineOf(0, lists(list(0, 0, 0)), nil)
	for _, c := range []struct {
		m    api.Machine
		word []int
	}{
		{machineOf(0, lists(list(1, 0, 2), list(2, 1, 1), list(2, 2, 2)), nil, nil, list(1)), list(2)},
		{machineOf(0, lists(list(1, 3, 3), list(1, 1, 2), list(2, 2, 2), list(2, 3, 3)), nil, nil, list(1), nil), list(0, 2)},
		{machineOf(0, lists(list(0, 1, 3), list(1, 1, 2), list(2, 2, 2), list(2, 3, 3)), nil, nil, list(1), nil), list(1, 2)},
		{machineOf(0, lists(list(0, 1, 1), list(1, 2, 2), list(2, 2, 2)), nil, nil, list(1)), list(1, 1)},
	} {
		for i, two := range [][2]api.Machine{{c.m, nothing}, {nothing, c.m}} {
			if word, found := wordOf(t, two[0], two[1], 3); !found || !slices.Equal(word, c.word) {
				t.Errorf("P13.3: number %d: %v, %v, want %v", i, word, found, c.word)
			}
		}
	}
}

func TestP13_4_OneOf(t *testing.T) {
	r := rand.New(rand.NewSource(134))
	all := words(2, 7)
	for range 1500 {
		a, b := sample(r, 6, 2), sample(r, 3, 2)
		x, y := leastOf(t, a, 2), leastOf(t, b, 2)
		if _, differ := apart(a, b); differ == equal(x, y) {
			t.Fatalf("P13.4: %s and %s: %s and %s", brief(a), brief(b), brief(x), brief(y))
		}
		if len(x.Next) > len(a.Next) || !minimal.Is(x, 2) || !equal(inOrder(x), x) {
			t.Fatalf("P13.4: Of(%s) = %s", brief(a), brief(x))
		}
		for _, w := range all {
			if !slices.Equal(told(a, w), told(x, w)) {
				t.Fatalf("P13.4: %s and its Of %s tell unlike things behind %v", brief(a), brief(x), w)
			}
		}
		for p, row := range unlike(x) {
			for q := range row {
				if p != q && !row[q] {
					t.Fatalf("P13.4: the states %d and %d of %s tell the same", p, q, brief(x))
				}
			}
		}
	}
}

func TestP0_5_Memory(t *testing.T) {
	r := rand.New(rand.NewSource(135))
	for range 300 {
		m, o := spared(sample(r, 8, 2)), spared(sample(r, 8, 2))
		before, other := copyOf(m), copyOf(o)
		got := leastOf(t, m, 2)
		minimal.Is(m, 2)
		word, _ := wordOf(t, m, o, 2)
		if !untouched(m, before) || !untouched(o, other) {
			t.Fatalf("P0.5: %s became %s, or %s became %s", brief(before), brief(m), brief(other), brief(o))
		}
		want := copyOf(got)
		for _, rows := range [][][]int{m.Next, m.Out} {
			for _, row := range rows {
				spoil(row)
			}
		}
		spoil(word)
		if !equal(got, want) {
			t.Fatalf("P0.5: the answer hangs on the argument")
		}
		parted(t, append(slices.Clone(got.Next), got.Out...))
		if again := leastOf(t, before, 2); !equal(again, want) {
			t.Fatalf("P0.5: the answer is kept")
		}
	}
}

// spared gives each row spare room that holds something.
func spared(m api.Machine) api.Machine {
	for _, rows := range [][][]int{m.Next, m.Out} {
		for i, row := range rows {
			rows[i] = append(slices.Clone(row), 77, 78)[:len(row)]
		}
	}
	return m
}

func untouched(m, before api.Machine) bool {
	for _, rows := range [][][]int{m.Next, m.Out} {
		for _, row := range rows {
			if spare := row[len(row) : len(row)+2]; spare[0] != 77 || spare[1] != 78 {
				return false
			}
		}
	}
	return equal(m, before)
}

func spoil(row []int) {
	row = row[:cap(row)]
	for i := range row {
		row[i] = -9
	}
}

// parted: who writes into one row, or behind it, changes no other one.
func parted(t *testing.T, rows [][]int) {
	t.Helper()
	for i := range rows {
		kept := make([][]int, len(rows))
		for j := range rows {
			kept[j] = slices.Clone(rows[j])
		}
		spoil(rows[i])
		for j := range rows {
			if j != i && !slices.Equal(rows[j], kept[j]) {
				t.Fatalf("P0.5: the rows %d and %d share memory", i, j)
			}
		}
	}
}

// Any numbers: no call panics, and just what may be is taken.
func TestP0_1_AnyValues(t *testing.T) {
	r := rand.New(rand.NewSource(136))
	few := func(most int) []int {
		l := make([]int, r.Intn(most+1))
		for i := range l {
			l[i] = r.Intn(3) - r.Intn(2)*r.Intn(2)
		}
		return l
	}
	for range 30000 {
		m := api.Machine{Start: r.Intn(3) - r.Intn(2)}
		for range r.Intn(4) {
			m.Next = append(m.Next, few(2))
			if r.Intn(20) > 0 {
				m.Out = append(m.Out, few(2))
			}
		}
		symbols := r.Intn(4) - 1
		if !mayBe(m, symbols) {
			refused(t, brief(m), m, symbols)
		} else if got := leastOf(t, m, symbols); !equal(got, least(m)) {
			t.Fatalf("P13.1: Of(%s, %d) = %s", brief(m), symbols, brief(got))
		}
	}
}
