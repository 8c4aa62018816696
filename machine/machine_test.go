package machine_test

import (
	"fmt"
	"math"
	"math/rand"
	"slices"
	"testing"

	"caesura/api"
	"caesura/machine"
)

func built(t *testing.T, l []api.Pattern, symbols, most int) api.Machine {
	t.Helper()
	m, err := machine.Build(l, symbols, most)
	if err != nil {
		t.Fatalf("P12.1: Build(%s, %d, %d): %v", brief(l), symbols, most, err)
	}
	return m
}

func TestP12_1_Examples(t *testing.T) {
	p, q := one(false, 0), one(true, 0)
	for i, c := range []struct {
		l    []api.Pattern
		want api.Machine
	}{
		{nil, api.Machine{Next: lists(list(1, 1), list(1, 1)), Out: lists(nil, nil)}},
		{[]api.Pattern{p}, api.Machine{Next: lists(list(1, 2), list(1, 2), list(1, 2)), Out: lists(nil, list(0), nil)}},
		{[]api.Pattern{q}, api.Machine{Next: lists(list(1, 2), list(2, 2), list(2, 2)), Out: lists(nil, list(0), nil)}},
		{[]api.Pattern{empty(false)}, api.Machine{Next: lists(list(1, 1), list(1, 1)), Out: lists(list(0), list(0))}},
		{[]api.Pattern{empty(true)}, api.Machine{Next: lists(list(1, 1), list(1, 1)), Out: lists(list(0), nil)}},
		{[]api.Pattern{p, q, empty(true), empty(false)}, api.Machine{Next: lists(list(1, 2), list(3, 2), list(3, 2), list(3, 2)), Out: lists(list(2, 3), list(0, 1, 3), list(3), list(0, 3))}},
	} {
		if m := built(t, c.l, 2, 9); !equal(m, c.want) {
			t.Errorf("P12.1: %d: %v, want %v", i, m, c.want)
		}
	}
}

func TestP12_1_Refusals(t *testing.T) {
	p := []api.Pattern{one(false, 0)}
	for _, c := range []struct {
		symbols, most int
		want          error
	}{
		{2, 2, api.ErrMany}, {2, 1, api.ErrMany}, {0, 9, api.ErrArg}, {2, 0, api.ErrArg}, {16385, 9, api.ErrArg}, {2, 16385, api.ErrArg},
		{-1, 9, api.ErrArg}, {2, -1, api.ErrArg}, {math.MinInt, 1, api.ErrArg}, {math.MaxInt, 1, api.ErrArg}, {1, math.MaxInt, api.ErrArg}, {1, math.MinInt, api.ErrArg},
	} {
		m, err := machine.Build(p, c.symbols, c.most)
		refuseBuild(t, fmt.Sprint(c.symbols, c.most), c.want, err, m)
	}
	for _, most := range []int{3, 4, 16384} {
		built(t, p, 2, most)
		built(t, p, 16384, most)
		built(t, p, 1, most)
	}
}

// Each pattern is checked in its order, behind the numbers and ahead of the states.
func TestP12_1_Order(t *testing.T) {
	good := one(false, 0)
	arg := one(false, 2)
	many := api.Pattern{Positions: api.Positions{Letters: make([][]int, api.MaxExpr+1)}}
	for i, c := range []struct {
		l             []api.Pattern
		symbols, most int
		want          error
	}{
		{[]api.Pattern{good, arg, many}, 2, 9, api.ErrArg},
		{[]api.Pattern{good, many, arg}, 2, 9, api.ErrMany},
		{[]api.Pattern{many}, 0, 9, api.ErrArg},
		{[]api.Pattern{many}, 2, 0, api.ErrArg},
		{[]api.Pattern{good, arg}, 2, 1, api.ErrArg},
		{[]api.Pattern{{Positions: api.Positions{First: list(0)}}}, 2, 9, api.ErrArg},
		{[]api.Pattern{{Positions: api.Positions{Last: list(-1)}}}, 2, 9, api.ErrArg},
		{[]api.Pattern{{Positions: api.Positions{Letters: lists(nil)}}}, 2, 9, api.ErrArg},
		{[]api.Pattern{{Positions: api.Positions{Letters: lists(list(1, 0)), Follow: lists(nil)}}}, 2, 9, api.ErrArg},
		{[]api.Pattern{{Positions: api.Positions{Letters: lists(nil), Follow: lists(list(1))}}}, 2, 9, api.ErrArg},
	} {
		m, err := machine.Build(c.l, c.symbols, c.most)
		refuseBuild(t, fmt.Sprint("the order ", i), c.want, err, m)
	}
}

// ago has a state for each row of thirteen symbols (8192), for each shorter one that is all of the word (8190), for nothing; and so many more for words of zeros alone.
func ago(more int) []api.Pattern {
	any13 := slices.Repeat(lists(list(0, 1)), 13)
	any13[0] = list(0)
	all := slices.Repeat(lists(list(0, 1)), 12)
	return []api.Pattern{chain(false, any13...), chain(true, all...), chain(true, slices.Repeat(lists(list(0)), 12+more)...)}
}

func TestP12_1_MaxStates(t *testing.T) {
	if m := built(t, ago(1), 2, api.MaxStates); len(m.Next) != api.MaxStates || len(m.Out) != api.MaxStates || machine.Check(m, 2, 3) != nil {
		t.Errorf("P12.1: %d states, want %d", len(m.Next), api.MaxStates)
	}
	m, err := machine.Build(ago(2), 2, api.MaxStates)
	refuseBuild(t, "16385 states", api.ErrMany, err, m)
	m, err = machine.Build(ago(1), 2, api.MaxStates-1)
	refuseBuild(t, "one more than most", api.ErrMany, err, m)
}

// An anchored chain of n has n + 2 states.
func TestP12_1_Cells(t *testing.T) {
	for _, c := range []struct{ symbols, length int }{{16384, 254}, {8192, 510}, {16000, 260}} {
		zeros := slices.Repeat(lists(list(0)), c.length+1)
		m := built(t, []api.Pattern{chain(true, zeros[:c.length]...)}, c.symbols, api.MaxStates)
		if len(m.Next) != c.length+2 || len(m.Next[1]) != c.symbols || machine.Check(m, c.symbols, 1) != nil {
			t.Errorf("P12.1: %d states, want %d", len(m.Next), c.length+2)
		}
		m, err := machine.Build([]api.Pattern{chain(true, zeros...)}, c.symbols, api.MaxStates)
		refuseBuild(t, "a row too many", api.ErrMany, err, m)
	}
}

// 1024 states with 4096 patterns that always end are just MaxCells numbers in Out.
func TestP12_1_Outs(t *testing.T) {
	row := chain(true, slices.Repeat(lists(list(0)), 1022)...)
	row.Positions.Last = nil
	l := append([]api.Pattern{row}, slices.Repeat([]api.Pattern{empty(false)}, 4096)...)
	m := built(t, l, 2, api.MaxStates)
	outs := 0
	for _, out := range m.Out {
		outs += len(out)
	}
	if outs != api.MaxCells || machine.Check(m, 2, 4097) != nil {
		t.Errorf("P12.1: %d numbers in Out", outs)
	}
	m, err := machine.Build(append(l, empty(true)), 2, api.MaxStates)
	refuseBuild(t, "a number too many at the start", api.ErrMany, err, m)
	l[0].Positions.Last = list(1021)
	m, err = machine.Build(l, 2, api.MaxStates)
	refuseBuild(t, "a number too many", api.ErrMany, err, m)
	m, err = machine.Build(slices.Repeat([]api.Pattern{empty(true)}, api.MaxCells+1), 1, 2)
	refuseBuild(t, "the start alone has too many", api.ErrMany, err, m)
}

func TestP12_1_Samples(t *testing.T) {
	r := rand.New(rand.NewSource(12))
	for range 1500 {
		symbols := 1 + r.Intn(4)
		l := samples(r, symbols)
		against(t, l, symbols)
	}
}

func against(t *testing.T, l []api.Pattern, symbols int) {
	t.Helper()
	want, ok := expected(l, symbols, 400)
	if !ok {
		return
	}
	states := len(want.Next)
	if m := built(t, l, symbols, states); !equal(m, want) {
		t.Fatalf("P12.1: Build(%v, %d) = %s, want %s", l, symbols, brief(m), brief(want))
	}
	if m := built(t, l, symbols, api.MaxStates); !equal(m, want) {
		t.Fatalf("P12.4: Build(%v, %d) hangs on most: %s, want %s", l, symbols, brief(m), brief(want))
	}
	m, err := machine.Build(l, symbols, states-1)
	refuseBuild(t, "one state too many", api.ErrMany, err, m)
}

// The places of later patterns lie in other words of bits than those of the first ones, or in two.
func TestP12_1_ManyPlaces(t *testing.T) {
	r := rand.New(rand.NewSource(121))
	for n := range 140 {
		l := []api.Pattern{padded(n + 1), sample(r, 5, 3), sample(r, 4, 3), padded(61), sample(r, 5, 3)}
		against(t, l, 3)
	}
	for range 20 {
		against(t, []api.Pattern{sample(r, 70+r.Intn(80), 2)}, 2)
	}
}

func TestP12_3_Run(t *testing.T) {
	m := api.Machine{Next: lists(list(1, 2), list(1, 2), list(1, 2)), Out: lists(nil, list(0), nil)}
	at := func(start int, next ...[]int) api.Machine { return api.Machine{Start: start, Next: next} }
	for i, c := range []struct {
		m    api.Machine
		word []int
		want []int
		err  error
	}{
		{m, list(0, 1, 0), list(0, 1, 2, 1), nil},
		{m, nil, list(0), nil},
		{m, list(2), nil, api.ErrArg},
		{m, list(0, -1), nil, api.ErrArg},
		{m, list(math.MaxInt), nil, api.ErrArg},
		{m, list(math.MinInt), nil, api.ErrArg},
		{api.Machine{}, nil, nil, api.ErrArg},
		{api.Machine{Out: lists(nil)}, nil, nil, api.ErrArg},
		{at(1, list(0)), nil, nil, api.ErrArg},
		{at(-1, list(0)), nil, nil, api.ErrArg},
		{at(1, nil, list(1)), list(0, 0), list(1, 1, 1), nil},
		{at(1, nil, list(0)), list(0), list(1, 0), nil},
		{at(1, nil, list(0)), list(0, 0), nil, api.ErrArg},
		{at(0, list(0, 1)), list(0, 0), list(0, 0, 0), nil},
		{at(0, list(0, 1)), list(0, 1), nil, api.ErrArg},
		{at(0, list(0, -1)), list(0, 1), nil, api.ErrArg},
		{at(0, list(7)), nil, list(0), nil},
		{at(0, list(1), list(0, 0, 0)), list(0, 2, 0), list(0, 1, 0, 1), nil},
	} {
		if l, err := machine.Run(c.m, c.word); !slices.Equal(l, c.want) || err != c.err {
			t.Errorf("P12.3: %d: %v, %v, want %v, %v", i, l, err, c.want, c.err)
		}
	}
}

func TestP12_4_WhatFollows(t *testing.T) {
	r := rand.New(rand.NewSource(124))
	for range 600 {
		symbols := 1 + r.Intn(4)
		l := samples(r, symbols)
		m, err := machine.Build(l, symbols, api.MaxStates)
		if err != nil {
			continue
		}
		if err := machine.Check(m, symbols, len(l)); err != nil {
			t.Fatalf("P12.4: Check(Build(%v)): %v", l, err)
		}
		metInOrder(t, m)
		for range 20 {
			word := sampleWord(r, symbols, 9)
			states, err := machine.Run(m, word)
			if err != nil || len(states) != len(word)+1 {
				t.Fatalf("P12.3: Run(%v, %v) = %v, %v", m, word, states, err)
			}
			if out, want := m.Out[states[len(word)]], endBehind(l, word); !slices.Equal(out, want) {
				t.Fatalf("P12.4: of %v end behind %v: %v, want %v", l, word, out, want)
			}
		}
	}
}

func metInOrder(t *testing.T, m api.Machine) {
	t.Helper()
	met := 1
	for s, row := range m.Next {
		if s >= met {
			t.Fatalf("P12.4: %v: state %d is not met", m, s)
		}
		for _, n := range row {
			if n > met {
				t.Fatalf("P12.4: %v: state %d is met ahead of %d", m, n, met)
			}
			met = max(met, n+1)
		}
	}
	if met != len(m.Next) || m.Start != 0 {
		t.Fatalf("P12.4: %v: %d states are met", m, met)
	}
}

func TestP12_5_Memory(t *testing.T) {
	room := func(n ...int) []int { return append(n, -7)[:len(n)] }
	make1 := func() []api.Pattern {
		p := api.Pattern{Positions: api.Positions{Letters: lists(room(0), room(0, 1)), First: room(0), Last: room(1), Follow: lists(room(1), room(0, 1)), Empty: true}}
		return []api.Pattern{p, empty(false), empty(false), empty(true)}
	}
	l := make1()
	m := built(t, l, 3, 99)
	want := built(t, make1(), 3, 99)
	for _, x := range [][]int{l[0].Positions.Letters[0], l[0].Positions.Letters[1], l[0].Positions.First, l[0].Positions.Last, l[0].Positions.Follow[0], l[0].Positions.Follow[1]} {
		if x[:len(x)+1][len(x)] != -7 {
			t.Errorf("P12.5: the spare room behind %v was changed", x)
		}
	}
	if fmt.Sprint(l) != fmt.Sprint(make1()) {
		t.Errorf("P12.5: the patterns were changed: %v", l)
	}
	l[0].Positions.Letters[0][0], l[0].Positions.Follow[0][0] = 2, 0
	if !equal(m, want) {
		t.Errorf("P12.5: the machine hangs on what was handed in")
	}
	apart(t, m, want)
	word := room(0, 1)
	states, err := machine.Run(m, word)
	if err != nil || word[:3][2] != -7 || !equal(m, want) {
		t.Fatalf("P12.5: Run changed what it was handed, or %v", err)
	}
	_ = append(states, 5)
	again, _ := machine.Run(m, word)
	states[0] = 99
	if again[0] != 0 || m.Start != 0 {
		t.Errorf("P12.5: answers of Run share memory")
	}
}

// apart writes into each list of a machine, and behind it, and looks whether another one has changed.
func apart(t *testing.T, m, want api.Machine) {
	t.Helper()
	for _, rows := range [][][]int{m.Next, m.Out} {
		for i, row := range rows {
			old := slices.Clone(row)
			_ = append(row, -5)
			for k := range row {
				row[k] = -9
			}
			rows[i] = old
			if !equal(m, want) {
				t.Fatalf("P12.5: who writes into list %d changes another one", i)
			}
		}
	}
}
