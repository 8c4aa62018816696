package pair_test

import (
	"math"
	"slices"
	"testing"

	"caesura/api"
	"caesura/machine"
	"caesura/pair"
)

// first is the least number that is in both lists.
func first(a, b []int) int {
	least := -1
	for _, n := range a {
		if slices.Contains(b, n) && (least < 0 || n < least) {
			least = n
		}
	}
	return least
}

// decidedBy is P14.4 as it stands there; false, if it is refused.
func decidedBy(p api.Pairing, word []int) ([]int, bool) {
	symbols := 0
	if len(p.Left.Next) > 0 {
		symbols = len(p.Left.Next[0])
	}
	for _, m := range []api.Machine{p.Left, p.Right} {
		if machine.Check(m, symbols, len(p.Breaks)) != nil {
			return nil, false
		}
	}
	for _, symbol := range word {
		if symbol < 0 || symbol >= symbols {
			return nil, false
		}
	}
	var numbers []int
	for i := 1; i < len(word); i++ {
		numbers = append(numbers, first(told(p.Left, word[:i]), told(p.Right, turned(word[i:]))))
	}
	return numbers, true
}

func breaksBy(p api.Pairing, word []int) []int {
	if len(word) == 0 {
		return nil
	}
	numbers, _ := decidedBy(p, word)
	places := list(0)
	for i, d := range numbers {
		if d >= 0 && p.Breaks[d] || d < 0 && p.Else {
			places = append(places, i+1)
		}
	}
	return append(places, len(word))
}

func (d drawn) numbers(most, low, high int) []int {
	var l []int
	for range d.Intn(most + 1) {
		l = append(l, low+d.Intn(high-low+1))
	}
	return l
}

func (d drawn) machine(symbols, patterns int) api.Machine {
	states := 1 + d.Intn(4)
	m := api.Machine{Start: d.Intn(states)}
	for range states {
		next := make([]int, symbols)
		for i := range next {
			next[i] = d.Intn(states)
		}
		m.Next = append(m.Next, next)
		out := d.numbers(patterns, 0, max(patterns-1, 0))
		slices.Sort(out)
		m.Out = append(m.Out, slices.Compact(out)[:min(patterns, len(slices.Compact(out)))])
	}
	return m
}

func (d drawn) pairing() (api.Pairing, int) {
	symbols, patterns := 1+d.Intn(3), d.Intn(6)
	p := api.Pairing{Left: d.machine(symbols, patterns), Right: d.machine(symbols, patterns), Breaks: make([]bool, patterns), Else: d.Intn(2) == 0}
	for i := range p.Breaks {
		p.Breaks[i] = d.Intn(2) == 0
	}
	return p, symbols
}

// spoil changes one thing of a pairing, so that it often may not be.
func (d drawn) spoil(p *api.Pairing) {
	m := &p.Left
	if d.Intn(2) == 0 {
		m = &p.Right
	}
	state := d.Intn(len(m.Next))
	switch d.Intn(8) {
	case 0:
		m.Start = d.Intn(7) - 1
	case 1:
		m.Next[state] = append(m.Next[state], 0)
	case 2:
		m.Next[state] = m.Next[state][:len(m.Next[state])-1]
	case 3:
		m.Next[state][0] = d.Intn(7) - 1
	case 4:
		m.Out[state] = append(m.Out[state], d.Intn(7)-1)
	case 5:
		m.Out = m.Out[:len(m.Out)-1]
	case 6:
		*m = api.Machine{}
	case 7:
		p.Breaks = p.Breaks[:d.Intn(len(p.Breaks)+1)]
	}
}

// Any pairing and any word, such as may not be, too.
func TestP14_4_Samples(t *testing.T) {
	d := newDrawn(144)
	fine, wrong := 0, 0
	for i := range 30000 {
		p, symbols := d.pairing()
		if i%3 == 0 {
			d.spoil(&p)
		}
		word := d.numbers(9, 0, symbols-1)
		if i%5 == 0 && len(word) > 0 {
			word[d.Intn(len(word))] = d.Intn(7) - 2
		}
		want, ok := decidedBy(p, word)
		got, err := pair.Decide(p, word)
		places, err2 := pair.Breaks(p, word)
		if !ok {
			wrong++
			if err != api.ErrArg || err2 != api.ErrArg || len(got) != 0 || len(places) != 0 {
				t.Fatalf("P14.4: %v, %v: %v, %v; %v, %v, want ErrArg", p, word, got, err, places, err2)
			}
			continue
		}
		fine++
		if err != nil || !slices.Equal(got, want) {
			t.Fatalf("P14.4: Decide(%v, %v) = %v, %v, want %v", p, word, got, err, want)
		}
		if want := breaksBy(p, word); err2 != nil || !slices.Equal(places, want) {
			t.Fatalf("P14.5: Breaks(%v, %v) = %v, %v, want %v", p, word, places, err2, want)
		}
	}
	if fine < 10000 || wrong < 5000 {
		t.Errorf("%d and %d samples", fine, wrong)
	}
}

func TestP14_2_Samples(t *testing.T) {
	d := newDrawn(142)
	for i := range 20000 {
		p, symbols := d.pairing()
		if i%2 == 0 {
			d.spoil(&p)
		}
		if i%7 == 0 {
			symbols += d.Intn(3) - 1
		}
		want := machine.Check(p.Left, symbols, len(p.Breaks))
		if want == nil {
			want = machine.Check(p.Right, symbols, len(p.Breaks))
		}
		if err := pair.Check(p, symbols); err != want {
			t.Fatalf("P14.2: Check(%v, %d): %v, want %v", p, symbols, err, want)
		}
		if n := pair.Size(p); n != len(p.Left.Next)+len(p.Right.Next) {
			t.Fatalf("P14.3: Size(%v) = %d", p, n)
		}
	}
}

func TestP14_2_Edges(t *testing.T) {
	one := api.Machine{Next: lists(list(0, 0)), Out: lists(list(0))}
	p := api.Pairing{Left: one, Right: one, Breaks: []bool{true}}
	for symbols, want := range map[int]error{2: nil, 1: api.ErrArg, 3: api.ErrArg, 0: api.ErrArg, -1: api.ErrArg, math.MinInt: api.ErrArg, math.MaxInt: api.ErrArg} {
		if err := pair.Check(p, symbols); err != want {
			t.Errorf("P14.2: %d symbols: %v, want %v", symbols, err, want)
		}
	}
	if pair.Size(p) != 2 || pair.Size(api.Pairing{Right: one}) != 1 || pair.Size(api.Pairing{Left: one}) != 1 {
		t.Error("P14.3: Size")
	}
	for _, wrong := range []api.Pairing{{Left: one, Right: one}, {Left: one, Breaks: p.Breaks}, {Right: one, Breaks: p.Breaks}, {Left: api.Machine{Next: lists(nil), Out: lists(nil)}, Right: one, Breaks: p.Breaks}, {Left: api.Machine{Next: lists(list(0, 0, 0)), Out: lists(nil)}, Right: one, Breaks: p.Breaks}, {Left: api.Machine{Next: lists(nil), Out: lists(nil)}, Right: api.Machine{Next: lists(nil), Out: lists(nil)}}} {
		for _, word := range [][]int{nil, list(0), list(0, 1)} {
			got, err := pair.Decide(wrong, word)
			places, err2 := pair.Breaks(wrong, word)
			if err != api.ErrArg || err2 != api.ErrArg || len(got) != 0 || len(places) != 0 {
				t.Errorf("P14.4: %v, %v: %v, %v; %v, %v", wrong, word, got, err, places, err2)
			}
		}
	}
	for _, word := range [][]int{list(2), list(-1), list(0, 1, 2), list(2, 0), list(0, math.MaxInt), list(math.MinInt)} {
		got, err := pair.Decide(p, word)
		places, err2 := pair.Breaks(p, word)
		if err != api.ErrArg || err2 != api.ErrArg || len(got) != 0 || len(places) != 0 {
			t.Errorf("P14.4: the word %v: %v, %v; %v, %v", word, got, err, places, err2)
		}
	}
	decides(t, p, list(0, 1, 0), list(0, 0))
	breaks(t, "P14.5", p, list(0, 1, 0), list(0, 1, 2, 3))
	breaks(t, "P14.5", p, list(1), list(0, 1))
}

// The least number that both have, wherever it stands in the lists.
func TestP14_4_Least(t *testing.T) {
	single := func(out []int) api.Machine { return api.Machine{Next: lists(list(0)), Out: lists(out)} }
	d := newDrawn(1441)
	for i := range 4000 {
		high := []int{3, 20, 100, 1000}[i%4]
		var outs [2][]int
		for side := range outs {
			outs[side] = d.numbers([]int{2, 9, 40, 300}[d.Intn(4)], 0, high)
			slices.Sort(outs[side])
			outs[side] = slices.Compact(outs[side])
		}
		p := api.Pairing{Left: single(outs[0]), Right: single(outs[1]), Breaks: make([]bool, high+1)}
		decides(t, p, list(0, 0), list(first(outs[0], outs[1])))
	}
	if t.Failed() {
		t.FailNow()
	}
	// long lists that have nothing in common are gone through once, however long the word is
	const great = 1 << 20
	var even, odd []int
	for n := range great / 2 {
		even, odd = append(even, 2*n), append(odd, 2*n+1)
	}
	p := api.Pairing{Left: single(even), Right: single(odd), Breaks: make([]bool, great)}
	decides(t, p, make([]int, 100001), slices.Repeat(list(-1), 100000))
	p.Right = single(append(slices.Clone(odd[:great/2-1]), great-2))
	decides(t, p, make([]int, 100001), slices.Repeat(list(great-2), 100000))
}

func TestP14_4_LongWord(t *testing.T) {
	w := worldOf(t, example, "Hi.", "z. B.")
	p := made(t, w)
	word := w.word("Hi. Ok. z. B. so. No ")
	want, err := pair.Breaks(p, word)
	if err != nil || !slices.Equal(want, list(0, 18, 21)) {
		t.Fatalf("P14.5: %v, %v", want, err)
	}
	const times = 50000
	places, err := pair.Breaks(p, slices.Repeat(word, times))
	if err != nil || len(places) != times+2 || places[times] != len(word)*times-3 {
		t.Errorf("P14.5: %d places, %v", len(places), err)
	}
}
