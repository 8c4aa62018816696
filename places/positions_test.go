package places_test

import (
	"fmt"
	"math"
	"math/rand"
	"slices"
	"testing"

	"caesura/api"
	"caesura/places"
)

// changed are two places, of which each follows the other and the second itself, changed by f.
func changed(f func(p *api.Positions)) api.Positions {
	p := api.Positions{Letters: [][]int{{1}, {0, 2}}, First: []int{0}, Last: []int{0, 1}, Follow: [][]int{{1}, {0, 1}}, Empty: true}
	f(&p)
	return p
}

func TestP11_2_Examples(t *testing.T) {
	for i, c := range []struct {
		p       api.Positions
		symbols int
		want    error
	}{
		{changed(func(*api.Positions) {}), 3, nil},
		{changed(func(*api.Positions) {}), 16384, nil},
		{api.Positions{}, 1, nil},
		{changed(func(p *api.Positions) { p.Empty = false }), 3, nil},
		{changed(func(p *api.Positions) { p.First, p.Last, p.Letters[0], p.Follow[1] = nil, nil, nil, []int{} }), 3, nil},
		{changed(func(*api.Positions) {}), 2, api.ErrArg},
		{changed(func(*api.Positions) {}), 0, api.ErrArg},
		{api.Positions{}, 0, api.ErrArg},
		{api.Positions{}, -1, api.ErrArg},
		{api.Positions{}, math.MinInt, api.ErrArg},
		{api.Positions{}, math.MaxInt, api.ErrArg},
		{api.Positions{}, 16385, api.ErrArg},
		{api.Positions{Letters: [][]int{{3}}, Follow: [][]int{nil}}, 3, api.ErrArg},
		{api.Positions{Letters: [][]int{{1, 1}}, Follow: [][]int{nil}}, 3, api.ErrArg},
		{api.Positions{Letters: [][]int{{1}}, Follow: [][]int{nil}, First: []int{1}}, 3, api.ErrArg},
		{api.Positions{First: []int{0}}, 3, api.ErrArg},
		{api.Positions{Last: []int{0}}, 3, api.ErrArg},
		{changed(func(p *api.Positions) { p.Letters[1] = []int{2, 0} }), 3, api.ErrArg},
		{changed(func(p *api.Positions) { p.Letters[1] = []int{-1, 0} }), 3, api.ErrArg},
		{changed(func(p *api.Positions) { p.Letters[0] = []int{math.MaxInt} }), 3, api.ErrArg},
		{changed(func(p *api.Positions) { p.First = []int{0, 0} }), 3, api.ErrArg},
		{changed(func(p *api.Positions) { p.First = []int{1, 0} }), 3, api.ErrArg},
		{changed(func(p *api.Positions) { p.First = []int{-1} }), 3, api.ErrArg},
		{changed(func(p *api.Positions) { p.Last = []int{1, 2} }), 3, api.ErrArg},
		{changed(func(p *api.Positions) { p.Last = []int{1, 1} }), 3, api.ErrArg},
		{changed(func(p *api.Positions) { p.Last = []int{math.MinInt, 1} }), 3, api.ErrArg},
		{changed(func(p *api.Positions) { p.Follow[0] = []int{1, 0} }), 3, api.ErrArg},
		{changed(func(p *api.Positions) { p.Follow[1] = []int{2} }), 3, api.ErrArg},
		{changed(func(p *api.Positions) { p.Follow[1] = []int{-1} }), 3, api.ErrArg},
		{changed(func(p *api.Positions) { p.Follow = p.Follow[:1] }), 3, api.ErrArg},
		{changed(func(p *api.Positions) { p.Follow = nil }), 3, api.ErrArg},
		{changed(func(p *api.Positions) { p.Letters = p.Letters[:1] }), 3, api.ErrArg},
		{changed(func(p *api.Positions) { p.Follow = append(p.Follow, nil) }), 3, api.ErrArg},
	} {
		if err := places.Check(c.p, c.symbols); err != c.want {
			t.Errorf("P11.2: case %d: Check(%v, %d) = %v, want %v", i, c.p, c.symbols, err, c.want)
		}
	}
}

// numbers are 0 to one below n.
func numbers(n int) []int {
	l := make([]int, n)
	for i := range l {
		l[i] = i
	}
	return l
}

func TestP11_2_Limits(t *testing.T) {
	row := numbers(16384)
	lists := func(n int, l []int) [][]int { return slices.Repeat([][]int{l}, n) }
	for i, c := range []struct {
		p       api.Positions
		symbols int
		want    error
	}{
		{api.Positions{Letters: make([][]int, 4000), Follow: make([][]int, 4000)}, 1, nil},
		{api.Positions{Letters: make([][]int, 4001), Follow: make([][]int, 4001)}, 1, api.ErrMany},
		{api.Positions{Letters: make([][]int, 4001), Follow: nil, First: []int{-1}}, 0, api.ErrMany},
		{api.Positions{Letters: make([][]int, 4000), Follow: make([][]int, 4001)}, 1, api.ErrArg},
		{api.Positions{Letters: lists(256, row), Follow: make([][]int, 256)}, 16384, nil},
		{api.Positions{Letters: append(lists(256, row), []int{0}), Follow: make([][]int, 257)}, 16384, api.ErrMany},
		{api.Positions{Letters: append(lists(256, row), []int{-9, -9})}, -1, api.ErrMany},
		{api.Positions{Letters: make([][]int, 1024), Follow: lists(1024, row[:1024])}, 1, nil},
		{api.Positions{Letters: make([][]int, 1025), Follow: append(lists(1024, row[:1024]), []int{0})}, 1, api.ErrMany},
		{api.Positions{Letters: make([][]int, 1025), Follow: append(lists(1024, row[:1024]), []int{-1}), First: []int{-1}}, 0, api.ErrMany},
		{api.Positions{Follow: lists(64, row)}, 1, api.ErrArg},
		{api.Positions{Follow: append(lists(64, row), []int{0})}, 1, api.ErrMany},
		{api.Positions{Letters: lists(1, numbers(4194305)), Follow: make([][]int, 1)}, 16384, api.ErrMany},
		{api.Positions{Letters: lists(1, numbers(4194304)), Follow: make([][]int, 1)}, 16384, api.ErrArg},
	} {
		if err := places.Check(c.p, c.symbols); err != c.want {
			t.Errorf("P11.2: case %d: %v, want %v", i, err, c.want)
		}
	}
}

func TestP11_3_Examples(t *testing.T) {
	opts := api.Positions{Letters: [][]int{{1}, {2}}, First: []int{0, 1}, Last: []int{0, 1}, Follow: [][]int{{1}, nil}, Empty: true}
	both := api.Positions{Letters: [][]int{{1}, {2}}, First: []int{0}, Last: []int{1}, Follow: [][]int{{1}, nil}}
	for i, c := range []struct {
		p    api.Positions
		word []int
		want bool
	}{
		{opts, []int{1, 2}, true},
		{opts, []int{2, 1}, false},
		{opts, nil, true},
		{opts, []int{1, 1}, false},
		{opts, []int{2}, true},
		{both, []int{1, 2}, true},
		{both, []int{}, false},
		{both, []int{1}, false},
		{both, []int{2}, false},
		{both, []int{1, 2, 2}, false},
		{both, []int{1, 0}, false},
		{both, []int{-1, 2}, false},
		{both, []int{math.MaxInt, math.MinInt}, false},
		{api.Positions{}, nil, false},
		{api.Positions{Empty: true}, nil, true},
		{api.Positions{Empty: true}, []int{0}, false},
	} {
		if got := places.Match(c.p, c.word); got != c.want {
			t.Errorf("P11.3: case %d: Match(%v, %v) = %v", i, c.p, c.word, got)
		}
	}
}

// Positions that may not be are walked too, unless a number is no place.
func TestP11_3_WrongPositions(t *testing.T) {
	for i, c := range []struct {
		p    api.Positions
		want bool
	}{
		{changed(func(*api.Positions) {}), true},
		{changed(func(p *api.Positions) { p.First = []int{2} }), false},
		{changed(func(p *api.Positions) { p.First = []int{-1, 0} }), false},
		{changed(func(p *api.Positions) { p.Last = []int{2, 1, 0} }), false},
		{changed(func(p *api.Positions) { p.Last = []int{0, 1, math.MinInt} }), false},
		{changed(func(p *api.Positions) { p.Follow[0] = []int{1, 2} }), false},
		{changed(func(p *api.Positions) { p.Follow[1] = []int{-1} }), false},
		{changed(func(p *api.Positions) { p.Follow = p.Follow[:1] }), false},
		{changed(func(p *api.Positions) { p.Follow = append(p.Follow, nil) }), false},
		{changed(func(p *api.Positions) { p.First = []int{1, 0, 0, 1} }), true},
		{changed(func(p *api.Positions) { p.Last = []int{1, 0, 1} }), true},
		{changed(func(p *api.Positions) { p.Follow[0] = []int{1, 0, 1, 1} }), true},
		{changed(func(p *api.Positions) { p.Letters[1] = []int{7, 2, -3, 2, 0} }), true},
		{changed(func(p *api.Positions) { p.Letters[0] = []int{9, 1, 1} }), true},
	} {
		for _, word := range [][]int{nil, {1}, {1, 2}, {1, 2, 1, 0}} {
			if got := places.Match(c.p, word); got != c.want {
				t.Errorf("P11.3: case %d: Match(%v, %v) = %v", i, c.p, word, got)
			}
		}
	}
	odd := changed(func(p *api.Positions) { p.Letters[0] = []int{-5, math.MaxInt} })
	if !places.Match(odd, []int{-5, 2, math.MaxInt}) || places.Match(odd, []int{1}) {
		t.Error("P11.3: letters that are no symbols are met as they are")
	}
}

func TestP11_3_Samples(t *testing.T) {
	random := rand.New(rand.NewSource(113))
	yes := 0
	for i := range 40000 {
		p := somePositions(random, i%2 == 0)
		if random.Intn(30) == 0 {
			p.Follow = append(p.Follow, nil)
		}
		word := someNumbers(random, 4, -1, 3)
		want := matches(p, word)
		if got := places.Match(p, word); got != want {
			t.Fatalf("P11.3: Match(%v, %v) = %v", p, word, got)
		}
		if want && len(word) > 1 {
			yes++
		}
	}
	if yes < 400 {
		t.Errorf("only %d words of two or more are met", yes)
	}
}

// Places of many words of bits: lists that are short and lists that are long.
func TestP11_3_ManyPlaces(t *testing.T) {
	random := rand.New(rand.NewSource(313))
	for _, n := range []int{63, 64, 65, 511, 512, 513, 1100} {
		p := api.Positions{Letters: make([][]int, n), Follow: make([][]int, n), First: []int{0, n / 2}, Last: []int{n - 1, 1}}
		for x := range n {
			p.Letters[x] = someNumbers(random, 2, 0, 5)
			p.Follow[x] = someNumbers(random, []int{2, n / 32, n}[random.Intn(3)], 0, n-1)
		}
		for range 40 {
			word := someNumbers(random, 6, 0, 6)
			if got := places.Match(p, word); got != matches(p, word) {
				t.Fatalf("P11.3: %d places: Match(.., %v) = %v", n, word, got)
			}
		}
	}
}

// All follow all: each step is a matter of words of bits, not of pairs.
func TestP11_3_LongWord(t *testing.T) {
	row := numbers(1024)
	p := api.Positions{Letters: slices.Repeat([][]int{{0, 1}}, 1024), Follow: slices.Repeat([][]int{row}, 1024), First: row, Last: []int{5}}
	word := slices.Repeat([]int{0, 1, 1}, 700)
	if !places.Match(p, word) || places.Match(p, append(word, 2)) {
		t.Error("P11.3: a long word")
	}
	chain := api.Positions{Letters: slices.Repeat([][]int{{0}}, 100000), First: []int{0}, Last: []int{0}}
	for x := range 100000 {
		chain.Follow = append(chain.Follow, []int{(x + 1) % 100000})
	}
	if places.Match(chain, make([]int, 3000)) {
		t.Error("P11.3: many more places than an expression has")
	}
}

func TestP11_4_Examples(t *testing.T) {
	got := places.Reverse(api.Positions{Letters: [][]int{{1}, {2}}, First: []int{0}, Last: []int{1}, Follow: [][]int{{1}, nil}})
	if !same(got, api.Positions{Letters: [][]int{{1}, {2}}, First: []int{1}, Last: []int{0}, Follow: [][]int{nil, {0}}}) {
		t.Errorf("P11.4: %v", got)
	}
	got = places.Reverse(changed(func(*api.Positions) {}))
	if !same(got, api.Positions{Letters: [][]int{{1}, {0, 2}}, First: []int{0, 1}, Last: []int{0}, Follow: [][]int{{1}, {0, 1}}, Empty: true}) {
		t.Errorf("P11.4: %v", got)
	}
	if got = places.Reverse(api.Positions{Empty: true}); !same(got, api.Positions{Empty: true}) {
		t.Errorf("P11.4: no places: %v", got)
	}
	odd := api.Positions{Letters: [][]int{{9, -1, 9}}, Follow: [][]int{nil}}
	if got = places.Reverse(odd); !same(got, odd) {
		t.Errorf("P11.4: letters are taken as they are: %v", got)
	}
}

func TestP11_4_Wrong(t *testing.T) {
	for i, f := range []func(p *api.Positions){
		func(p *api.Positions) { p.First = []int{2} },
		func(p *api.Positions) { p.First = []int{-1} },
		func(p *api.Positions) { p.First = []int{0, 0} },
		func(p *api.Positions) { p.Last = []int{0, 2} },
		func(p *api.Positions) { p.Last = []int{math.MinInt} },
		func(p *api.Positions) { p.Last = []int{1, 0} },
		func(p *api.Positions) { p.Follow[0] = []int{2} },
		func(p *api.Positions) { p.Follow[1] = []int{-1, 0} },
		func(p *api.Positions) { p.Follow[1] = []int{1, 1} },
		func(p *api.Positions) { p.Follow[1] = []int{1, 0} },
		func(p *api.Positions) { p.Follow[1] = []int{math.MaxInt} },
		func(p *api.Positions) { p.Follow = p.Follow[:1] },
		func(p *api.Positions) {
			p.Letters = p.Letters[:1]
			p.Last = []int{0}
			p.Follow[0], p.Follow[1] = nil, nil
		},
	} {
		if got := places.Reverse(changed(f)); !same(got, api.Positions{}) {
			t.Errorf("P11.4: case %d: %v, want zero positions", i, got)
		}
	}
}

// Reverse knows no limits.
func TestP11_4_Great(t *testing.T) {
	row := numbers(1100)
	p := api.Positions{Letters: make([][]int, 5000), Follow: append(slices.Repeat([][]int{row}, 1100), make([][]int, 3900)...), First: []int{7}, Last: []int{4999}}
	r := places.Reverse(p)
	if !slices.Equal(r.First, p.Last) || !slices.Equal(r.Last, p.First) || !slices.EqualFunc(r.Follow, p.Follow, slices.Equal[[]int]) {
		t.Error("P11.4: great positions")
	}
}

func TestP11_6_Samples(t *testing.T) {
	random := rand.New(rand.NewSource(116))
	for i := range 20000 {
		p := somePositions(random, i%4 > 0)
		r := places.Reverse(p)
		rise := len(p.Follow) == len(p.Letters)
		for _, l := range append(slices.Clone(p.Follow), p.First, p.Last) {
			for k, x := range l {
				rise = rise && x >= 0 && x < len(p.Letters) && (k == 0 || l[k-1] < x)
			}
		}
		if !rise {
			if !same(r, api.Positions{}) {
				t.Fatalf("P11.4: Reverse(%v) = %v", p, r)
			}
			continue
		}
		for x := range p.Follow {
			for y := range p.Follow {
				if slices.Contains(p.Follow[x], y) != slices.Contains(r.Follow[y], x) {
					t.Fatalf("P11.4: Reverse(%v) = %v", p, r)
				}
			}
		}
		if back := places.Reverse(r); !same(back, p) {
			t.Fatalf("P11.6: Reverse(Reverse(%v)) = %v", p, back)
		}
		word := someNumbers(random, 4, 0, 2)
		back := slices.Clone(word)
		slices.Reverse(back)
		if places.Match(p, word) != places.Match(r, back) {
			t.Fatalf("P11.6: Match(Reverse(%v), %v)", p, back)
		}
	}
}

// roomy are the same lists, with spare room behind each.
func roomy(lists [][]int) [][]int {
	room := make([][]int, 0, len(lists)+3)
	for _, l := range lists {
		room = append(room, append(make([]int, 0, len(l)+3), l...))
	}
	return room
}

// whole shows lists with their spare room.
func whole(lists ...[]int) string {
	text := ""
	for _, l := range lists {
		text += fmt.Sprint(l[:cap(l)])
	}
	return text
}

// each are all lists of positions.
func each(p api.Positions) [][]int {
	return slices.Concat(p.Letters, p.Follow, [][]int{p.First, p.Last})
}

// apart writes into each list and its spare room, and looks whether another one changes.
func apart(t *testing.T, what string, p api.Positions, others ...[]int) {
	t.Helper()
	for i := range each(p) {
		rest := slices.Concat(slices.Delete(each(p), i, i+1), others)
		before := fmt.Sprint(rest)
		l := each(p)[i]
		for k := range l[:cap(l)] {
			l[:cap(l)][k] += 1000
		}
		if now := fmt.Sprint(rest); now != before {
			t.Errorf("P11.7: %s: list %d shares memory with another: %s, before %s", what, i, now, before)
		}
	}
	outer := [][][]int{p.Letters[:cap(p.Letters)], p.Follow[:cap(p.Follow)]}
	if len(outer[0]) > 0 && len(outer[1]) > 0 && &outer[0][0] == &outer[1][0] {
		t.Errorf("P11.7: %s: Letters and Follow are one list", what)
	}
}

func TestP11_7_Memory(t *testing.T) {
	p := changed(func(p *api.Positions) {
		p.Letters, p.Follow = roomy(p.Letters), roomy(p.Follow)
		p.First, p.Last = append(make([]int, 0, 5), p.First...), append(make([]int, 0, 5), p.Last...)
	})
	word := append(make([]int, 0, 9), 1, 2, 0)
	handed := func() string { return whole(append(each(p), word)...) + fmt.Sprint(p.Letters[:4], p.Follow[:4]) }
	before := handed()
	places.Check(p, 3)
	places.Match(p, word)
	r := places.Reverse(p)
	if now := handed(); now != before {
		t.Errorf("P11.7: what was handed in is changed: %s, before %s", now, before)
	}
	apart(t, "Reverse", r, each(p)...)
	if now := handed(); now != before {
		t.Errorf("P11.7: Reverse answers what it was handed: %s, before %s", now, before)
	}
}

func TestP11_7_MemoryOfOf(t *testing.T) {
	x := alphabetOf(t, a, b, neither)
	e := seq(star(alt(a, b, neither)), plus(a))
	e.Parts = append(make([]api.Expr, 0, 4), e.Parts...)
	before := fmt.Sprint(e, e.Parts[:4])
	p := made(t, e, x)
	want := fmt.Sprint(p)
	if now := fmt.Sprint(e, e.Parts[:4]); now != before {
		t.Errorf("P11.7: Of has changed what it was handed: %s, before %s", now, before)
	}
	apart(t, "Of", p)
	if got := fmt.Sprint(made(t, e, x)); got != want {
		t.Errorf("P11.7: Of answers what it has kept: %s, before %s", got, want)
	}
}
