package filter_test

import (
	"math"
	"slices"
	"testing"

	"caesura/api"
	"caesura/filter"
	"caesura/pair"
)

func list(n ...int) []int { return n }

// every is one state, over three symbols, that tells these numbers.
func every(out ...int) api.Machine {
	return api.Machine{Next: [][]int{{0, 0, 0}}, Out: [][]int{out}}
}

// everywhere says a boundary at each place, without rules.
func everywhere() api.Pairing { return api.Pairing{Left: every(), Right: every(), Else: true} }

// points of a text; a ~ stands for a bad unit.
func points(text string) []int {
	var l []int
	for _, r := range text {
		if r == '~' {
			r = api.Bad
		}
		l = append(l, int(r))
	}
	return l
}

func lists(texts ...string) [][]int {
	var l [][]int
	for _, text := range texts {
		l = append(l, points(text))
	}
	return l
}

// symbols of a text: 1 the point ., 2 a blank, 0 all others.
func symbols(text string) []int {
	var word []int
	for _, point := range points(text) {
		word = append(word, max(0, 1+slices.Index(list('.', ' '), point)))
	}
	return word
}

func made(t *testing.T, p api.Pairing, symbols, before int, trail []int, entries [][]int) *filter.Filter {
	t.Helper()
	f, err := filter.New(p, symbols, before, trail, entries)
	if err != nil || f == nil {
		t.Fatalf("P16.1: New(.., %d, %d, %v, %v): %v, %v", symbols, before, trail, entries, f, err)
	}
	return f
}

func hides(t *testing.T, f *filter.Filter, points, word, want []int) {
	t.Helper()
	if got := f.Hidden(points, word); !slices.Equal(got, want) {
		t.Errorf("P16.2: Hidden(%v, %v) = %v, want %v", points, word, got, want)
	}
}

func breaks(t *testing.T, promise string, f *filter.Filter, points, word, want []int) {
	t.Helper()
	if got, err := f.Breaks(points, word); err != nil || !slices.Equal(got, want) {
		t.Errorf("%s: Breaks(%v, %v) = %v, %v, want %v", promise, points, word, got, err, want)
	}
}

type example struct {
	text           string
	hidden, breaks []int
}

// The chapter's examples, with the entries "a." and "b.c", and others of their kind.
func examples() []example {
	return []example{
		{"a.x", list(1, 2), list(0, 3)},
		{"a.  x", list(1, 2, 3, 4), list(0, 5)},
		{"xb.cx", list(2, 3, 4), list(0, 1, 5)},
		{"b.x", nil, list(0, 1, 2, 3)},
		{"a.", list(1), list(0, 2)},
		{"", nil, nil},
		{"aa.a.", list(2, 3, 4), list(0, 1, 5)},
		{"x", nil, list(0, 1)},
		{"~", nil, list(0, 1)},
		{"a", nil, list(0, 1)},
		{"xy", nil, list(0, 1, 2)},
		{"  a.", list(3), list(0, 1, 2, 4)},
		{"a. x ", list(1, 2, 3), list(0, 4, 5)},
		{"a. .x", list(1, 2, 3), list(0, 4, 5)},
		{"a .x", nil, list(0, 1, 2, 3, 4)},
		{"a. ", list(1, 2), list(0, 3)},
		{"a. a. x", list(1, 2, 3, 4, 5, 6), list(0, 7)},
		{"b.ca.  ~", list(1, 2, 3, 4, 5, 6, 7), list(0, 8)},
		{"a.~ x", list(1, 2), list(0, 3, 4, 5)},
		{"a~.x", nil, list(0, 1, 2, 3, 4)},
		{"A.x", nil, list(0, 1, 2, 3)},
	}
}

func TestExamples(t *testing.T) {
	f := made(t, everywhere(), 3, 0, list(2), lists("a.", "b.c"))
	off := made(t, everywhere(), 3, -1, list(2), lists("a.", "b.c"))
	ruled := api.Pairing{Left: every(0), Right: every(0), Breaks: []bool{true}}
	ahead := made(t, ruled, 3, 1, list(2), lists("a.", "b.c"))
	behind := made(t, ruled, 3, 0, list(2), lists("a.", "b.c"))
	for _, e := range examples() {
		p, w := points(e.text), symbols(e.text)
		all := list()
		for i := range len(p) + 1 {
			if len(p) > 0 {
				all = append(all, i)
			}
		}
		hides(t, f, p, w, e.hidden)
		breaks(t, "P16.3", f, p, w, e.breaks)
		hides(t, off, p, w, nil)
		breaks(t, "P16.4", off, p, w, all)
		hides(t, ahead, p, w, e.hidden)
		breaks(t, "P16.3", ahead, p, w, all)
		hides(t, behind, p, w, e.hidden)
		breaks(t, "P16.3", behind, p, w, e.breaks)
	}
}

// An entry in the way overrules the rules from before on, and Else; a rule ahead of it that says no boundary stands, too.
func TestP16_3_Before(t *testing.T) {
	p, w := points("a.x"), symbols("a.x")
	all, ends := list(0, 1, 2, 3), list(0, 3)
	for i, c := range []struct {
		p      api.Pairing
		before int
		want   []int
	}{
		{everywhere(), 0, ends},
		{api.Pairing{Left: every(), Right: every()}, 0, ends},
		{api.Pairing{Left: every(), Right: every()}, -1, ends},
		{api.Pairing{Left: every(0), Right: every(0), Breaks: []bool{true}}, 0, ends},
		{api.Pairing{Left: every(0), Right: every(0), Breaks: []bool{true}}, 1, all},
		{api.Pairing{Left: every(0), Right: every(0), Breaks: []bool{true}}, -1, all},
		{api.Pairing{Left: every(0), Right: every(0), Breaks: []bool{false}, Else: true}, 1, ends},
		{api.Pairing{Left: every(0), Right: every(0), Breaks: []bool{false}, Else: true}, -1, ends},
		{api.Pairing{Left: every(1), Right: every(0, 1), Breaks: []bool{false, true}}, 0, ends},
		{api.Pairing{Left: every(1), Right: every(0, 1), Breaks: []bool{false, true}}, 1, ends},
		{api.Pairing{Left: every(1), Right: every(0, 1), Breaks: []bool{false, true}}, 2, all},
		{api.Pairing{Left: every(0, 1), Right: every(0, 1), Breaks: []bool{true, false}}, 1, all},
		{api.Pairing{Left: every(0, 1), Right: every(0, 1), Breaks: []bool{true, false}}, 0, ends},
		{api.Pairing{Left: every(1), Right: every(0), Breaks: []bool{false, false}, Else: true}, 2, ends},
		{api.Pairing{Left: every(1), Right: every(0), Breaks: []bool{false, false}, Else: true}, -1, all},
	} {
		f := made(t, c.p, 3, c.before, nil, lists("a."))
		if got, err := f.Breaks(p, w); err != nil || !slices.Equal(got, c.want) {
			t.Errorf("P16.3: number %d: %v, %v, want %v", i, got, err, c.want)
		}
	}
}

// The places of one text are decided each for itself.
func TestP16_3_ByPlace(t *testing.T) {
	// Left tells rule 0 behind the symbol 1 and rule 1 behind the symbol 2.
	next := [][]int{{0, 1, 2}, {0, 1, 2}, {0, 1, 2}}
	p := api.Pairing{Left: api.Machine{Next: next, Out: [][]int{nil, {0}, {1}}}, Right: every(0, 1), Breaks: []bool{true, true}, Else: true}
	text := "ab. c. x. y"
	for before, want := range map[int][]int{
		-1: list(0, 1, 2, 3, 4, 5, 6, 7, 8, 9, 10, 11),
		0:  list(0, 1, 8, 9, 10, 11),
		1:  list(0, 1, 3, 6, 8, 9, 10, 11),
		2:  list(0, 1, 3, 4, 6, 7, 8, 9, 10, 11),
	} {
		f := made(t, p, 3, before, list(2), lists("b.", "c."))
		breaks(t, "P16.3", f, points(text), symbols(text), want)
	}
}

func TestP16_2_Trail(t *testing.T) {
	for _, c := range []struct {
		trail []int
		text  string
		want  []int
	}{
		{nil, "a. .x", list(1, 2)},
		{list(), "a. .x", list(1, 2)},
		{list(0), "a. .x", list(1, 2)},
		{list(1), "a...  x", list(1, 2, 3, 4)},
		{list(2), "a. .x", list(1, 2, 3)},
		{list(1, 2), "a. .x", list(1, 2, 3, 4)},
		{list(0, 1, 2), "xa. .x", list(2, 3, 4, 5)},
		{list(0, 1, 2), "a. .xxx", list(1, 2, 3, 4, 5, 6)},
		{list(0), "a.~~.x", list(1, 2, 3, 4)},
	} {
		f := made(t, everywhere(), 3, 0, c.trail, lists("a."))
		hides(t, f, points(c.text), symbols(c.text), c.want)
	}
}

// Hidden takes any symbols, and any points: those of no entry stand in none.
func TestP16_2_AnyNumbers(t *testing.T) {
	f := made(t, everywhere(), 3, 0, list(0, 2), lists("a.", "\x00", "\U0010FFFF"))
	hides(t, f, points("a.x"), list(-5, 1<<40, 9), list(1, 2))
	hides(t, f, points("a.xyz"), list(9, 9, 0, 2, 3), list(1, 2, 3, 4))
	for _, symbol := range []int{-1, 1, 3, math.MinInt, math.MaxInt} {
		hides(t, f, points("a.xyz"), list(9, 9, 0, symbol, 0), list(1, 2, 3))
	}
	hides(t, f, list('a', math.MinInt, '.', math.MaxInt, api.Bad, 0xD800, 0x110000), make([]int, 7), nil)
	hides(t, f, list(0, 7, 0x10FFFF, 7), list(1, 1, 1, 1), list(1, 3))
	breaks(t, "P16.3", f, list(math.MinInt, 'a', '.', math.MaxInt), make([]int, 4), list(0, 1, 4))
}

func TestP16_3_Refusals(t *testing.T) {
	for _, before := range []int{-1, 0} {
		f := made(t, everywhere(), 3, before, nil, lists("a."))
		for _, c := range [][2][]int{
			{points("a."), list(0)}, {list('a'), list(0, 1)}, {nil, list(0)}, {list('a'), nil}, {points("a."), list(0, 1, 7)}, {points("a."), list(-1)},
			{points("a."), list(0, 3)}, {points("a."), list(-1, 0)}, {points("a"), list(3)}, {points("a.x"), list(0, math.MaxInt, 0)}, {points("a.x"), list(0, 0, math.MinInt)},
		} {
			if got, err := f.Breaks(c[0], c[1]); len(got) != 0 || err != api.ErrArg {
				t.Errorf("P16.3: Breaks(%v, %v) = %v, %v, want ErrArg", c[0], c[1], got, err)
			}
			if len(c[0]) != len(c[1]) {
				hides(t, f, c[0], c[1], nil)
			}
		}
		// a refusal changes nothing
		breaks(t, "P16.3", f, points("xx"), list(0, 0), list(0, 1, 2))
	}
}

func refuses(t *testing.T, what string, p api.Pairing, symbols, before int, trail []int, entries [][]int, want error) {
	t.Helper()
	if f, err := filter.New(p, symbols, before, trail, entries); f != nil || err != want {
		t.Errorf("P16.1: %s: %v, %v, want %v", what, f, err, want)
	}
}

func TestP16_1_Refusals(t *testing.T) {
	p := everywhere()
	two := api.Pairing{Left: every(0), Right: every(1), Breaks: []bool{true, false}}
	refuses(t, "the zero pairing", api.Pairing{}, 3, 0, nil, nil, api.ErrArg)
	refuses(t, "no symbols", api.Pairing{}, 0, 0, nil, nil, api.ErrArg)
	refuses(t, "Left alone", api.Pairing{Left: every()}, 3, 0, nil, nil, api.ErrArg)
	refuses(t, "Right alone", api.Pairing{Right: every()}, 3, 0, nil, nil, api.ErrArg)
	refuses(t, "a number that Breaks has not", api.Pairing{Left: every(), Right: every(0)}, 3, 0, nil, nil, api.ErrArg)
	for _, symbols := range []int{math.MinInt, -1, 0, 1, 2, 4, math.MaxInt} {
		refuses(t, "symbols", p, symbols, 0, nil, nil, api.ErrArg)
	}
	for _, before := range []int{math.MinInt, -2, 3, 4, math.MaxInt} {
		refuses(t, "before", two, 3, before, nil, nil, api.ErrArg)
	}
	refuses(t, "before, without rules", p, 3, 1, nil, nil, api.ErrArg)
	for before := -1; before <= 2; before++ {
		made(t, two, 3, before, nil, nil)
	}
	for _, trail := range [][]int{{-1}, {3}, {1, 1}, {2, 1}, {0, 1, 2, 3}, {0, 2, 1}, {-1, 0}, {math.MinInt}, {math.MaxInt}, {0, math.MaxInt}, {0, math.MinInt}, {0, 0}, {2, 2}} {
		for _, before := range []int{-1, 0} {
			refuses(t, "trail", p, 3, before, trail, nil, api.ErrArg)
		}
	}
	for _, trail := range [][]int{nil, {}, {0}, {2}, {0, 2}, {1, 2}, {0, 1, 2}} {
		made(t, p, 3, 0, trail, nil)
	}
}

func TestP16_1_Entries(t *testing.T) {
	p := everywhere()
	row := func(n int) [][]int {
		var entries [][]int
		for i := range n {
			entries = append(entries, list(i))
		}
		return entries
	}
	for _, before := range []int{-1, 0} {
		refuses(t, "no point", p, 3, before, nil, [][]int{{'a'}, {}}, api.ErrArg)
		refuses(t, "no scalar value", p, 3, before, nil, [][]int{{-1}}, api.ErrArg)
		refuses(t, "no scalar value", p, 3, before, nil, [][]int{{'a', 0xDFFF}}, api.ErrArg)
		refuses(t, "33 points", p, 3, before, nil, [][]int{make([]int, 33)}, api.ErrMany)
		refuses(t, "twice", p, 3, before, nil, lists("a", "b", "a"), api.ErrTwice)
		refuses(t, "2001 entries", p, 3, before, nil, row(2001), api.ErrMany)
		made(t, p, 3, before, nil, row(2000))
		made(t, p, 3, before, nil, [][]int{make([]int, 32)})
	}
}

// Each refusal stands ahead of those behind it.
func TestP16_1_Order(t *testing.T) {
	p, twice := everywhere(), lists("a", "a")
	many := slices.Repeat(lists("a"), 2001)
	for _, entries := range [][][]int{nil, twice, many} {
		refuses(t, "the pairing", api.Pairing{}, 3, 9, list(9), entries, api.ErrArg)
		refuses(t, "symbols", p, 2, 0, nil, entries, api.ErrArg)
		refuses(t, "before", p, 3, -2, nil, entries, api.ErrArg)
		refuses(t, "trail", p, 3, 0, list(9), entries, api.ErrArg)
		refuses(t, "trail", p, 3, 0, list(1, 0), entries, api.ErrArg)
	}
	refuses(t, "entries", p, 3, 0, list(0, 1), twice, api.ErrTwice)
	refuses(t, "entries", p, 3, 0, list(0, 1), many, api.ErrMany)
}

// An entry of 32 points stands, alone and beside shorter ones that end within it.
func TestP16_2_LongEntries(t *testing.T) {
	long := slices.Repeat(list('a'), 32)
	f := made(t, everywhere(), 3, 0, nil, [][]int{long})
	hides(t, f, long[:31], make([]int, 31), nil)
	text := slices.Concat(list('x'), long, list('x', 'a', 'x'))
	var want []int
	for i := 2; i <= 33; i++ {
		want = append(want, i)
	}
	hides(t, f, text, make([]int, 36), want)
	breaks(t, "P16.3", f, text, make([]int, 36), list(0, 1, 34, 35, 36))
}

// In a long text nothing is gone over again and again: all entries end at each place, and all of it is trail.
func TestP16_2_LongTexts(t *testing.T) {
	const n = 200000
	var entries [][]int
	for m := 1; m <= 32; m++ {
		entries = append(entries, slices.Repeat(list('a'), m))
	}
	f := made(t, everywhere(), 3, 0, list(0), entries)
	text, word := slices.Repeat(list('a'), n), make([]int, n)
	if got := f.Hidden(text, word); len(got) != n-1 || got[0] != 1 || got[n-2] != n-1 {
		t.Errorf("P16.2: %d places are hidden, want %d", len(got), n-1)
	}
	breaks(t, "P16.3", f, text, word, list(0, n))
}

func TestP16_4_WithoutEntries(t *testing.T) {
	d := newDrawn(1641)
	for range 2000 {
		p := d.pairing()
		word := d.word(12, 3)
		want, err := pair.Breaks(p, word)
		if err != nil {
			t.Fatal(err)
		}
		text := d.points(len(word))
		breaks(t, "P16.4", made(t, p, 3, d.Intn(len(p.Breaks)+2)-1, d.trail(3), nil), text, word, want)
		breaks(t, "P16.4", made(t, p, 3, -1, d.trail(3), d.entries(6, 4)), text, word, want)
	}
}

// P16.4: more entries take boundaries away and put none there.
func TestP16_4_MoreEntries(t *testing.T) {
	d := newDrawn(1642)
	fewer := 0
	for range 3000 {
		p, trail := d.pairing(), d.trail(3)
		before := d.Intn(len(p.Breaks)+2) - 1
		entries := d.entries(6, 3)
		word := d.word(14, 3)
		text := d.points(len(word))
		more, _ := made(t, p, 3, before, trail, entries).Breaks(text, word)
		some, _ := made(t, p, 3, before, trail, entries[:d.Intn(len(entries)+1)]).Breaks(text, word)
		for _, place := range more {
			if !slices.Contains(some, place) {
				t.Fatalf("P16.4: with more entries than %v: %v, else %v", entries, more, some)
			}
		}
		fewer += len(some) - len(more)
	}
	if fewer < 500 {
		t.Errorf("P16.4: only %d boundaries were taken away", fewer)
	}
}
