package merge_test

import (
	"math"
	"slices"
	"testing"

	"caesura/alphabet"
	"caesura/api"
	"caesura/merge"
	"caesura/minimal"
	"caesura/pair"
	"caesura/rules"
)

// made is the merged pairing, whatever its size.
func made(t *testing.T, w world) api.Pairing {
	t.Helper()
	p, ok, err := merge.Of(w.r, w.entries, w.a, most)
	if !ok || err != nil {
		t.Fatalf("P17.1: Of(%s, %s): %v, %v", brief(w.r), brief(w.entries), ok, err)
	}
	return p
}

// budgets are such as decide nothing where there is no pairing.
func budgets() []int { return list(math.MinInt, -5, 0, 1, 2, 100, most, math.MaxInt) }

// noPairing: no pairing under any budget, and this error.
func noPairing(t *testing.T, what string, r api.Rules, entries [][]int, a *alphabet.Alphabet, budgets []int, want error) {
	t.Helper()
	for _, budget := range budgets {
		p, ok, err := merge.Of(r, entries, a, budget)
		if ok || err != want || !same(p, api.Pairing{}) {
			t.Errorf("P17.1: %s, budget %d: %s, %v, %v, want no pairing, false, %v", what, budget, brief(p), ok, err, want)
		}
	}
}

func breaks(t *testing.T, promise string, p api.Pairing, word, want []int) {
	t.Helper()
	if got, err := pair.Breaks(p, word); err != nil || !slices.Equal(got, want) {
		t.Errorf("%s: Breaks(%v) = %v, %v, want %v", promise, word, got, err, want)
	}
}

func patterned(t *testing.T, r api.Rules, entries [][]int, want [][3]int) {
	t.Helper()
	if got := merge.Patterns(r, entries); !slices.Equal(got, want) {
		t.Errorf("P17.2: Patterns(%s, %s) = %s, want %s", brief(r), brief(entries), brief(got), brief(want))
	}
}

func TestP17_2_Examples(t *testing.T) {
	r := parsed(t, example)
	at := func(suppress int) api.Rules {
		other := r
		other.Suppress = suppress
		return other
	}
	plain := [][3]int{{0, -1, 0}, {1, -1, 0}, {2, -1, 0}, {3, -1, 0}}
	hi := [][3]int{{-1, 0, 1}, {-1, 0, 2}, {-1, 0, 3}}
	patterned(t, r, nil, plain)
	patterned(t, r, entriesOf("Hi."), slices.Concat(hi, plain))
	patterned(t, at(2), entriesOf("a", "b."), [][3]int{{0, -1, 0}, {1, -1, 0}, {-1, 0, 1}, {-1, 1, 1}, {-1, 1, 2}, {2, -1, 0}, {3, -1, 0}})
	patterned(t, at(4), entriesOf("Hi."), slices.Concat(plain, hi))
	patterned(t, at(3), lists(nil, list('a'), list(), list('b')), [][3]int{{0, -1, 0}, {1, -1, 0}, {2, -1, 0}, {-1, 1, 1}, {-1, 3, 1}, {3, -1, 0}})
	for _, suppress := range []int{-1, -2, math.MinInt, 5, 6, math.MaxInt} {
		patterned(t, at(suppress), entriesOf("Hi.", "a"), plain)
	}
	patterned(t, api.Rules{}, nil, nil)
	patterned(t, api.Rules{}, entriesOf("Hi."), hi)
	patterned(t, api.Rules{Suppress: -1}, entriesOf("Hi."), nil)
	patterned(t, api.Rules{Suppress: 1}, entriesOf("Hi."), nil)
}

// Of rules and entries such as may not be, too: neither names, sides nor points are looked at.
func TestP17_2_Samples(t *testing.T) {
	d := newDrawn(172)
	for range 5000 {
		r := api.Rules{Rules: make([]api.Rule, d.Intn(6)), Trail: api.Set{Names: []string{"9"}}}
		r.Suppress = list(d.Intn(10)-2, d.Intn(7), d.Intn(7), math.MinInt, math.MaxInt)[d.Intn(5)]
		entries := make([][]int, d.Intn(5))
		for i := range entries {
			entries[i] = slices.Repeat(list(-1), d.Intn(5))
		}
		patterned(t, r, entries, patternsBy(r, entries))
	}
	r := api.Rules{Rules: make([]api.Rule, 100), Suppress: 70}
	entries := append(make([][]int, 2500), make([]int, 1000), list('a'))
	patterned(t, r, entries, patternsBy(r, entries))
}

func TestP17_1_Examples(t *testing.T) {
	w := worldOf(t, example, "Hi.")
	p := made(t, w)
	if !slices.Equal(p.Breaks, []bool{false, false, false, false, false, false, true}) || p.Else {
		t.Errorf("P17.1: Breaks %v, Else %v", p.Breaks, p.Else)
	}
	breaks(t, "P17.3", p, w.word("Hi. Ok"), list(0, 6))
	breaks(t, "P17.3", p, w.word("Ho. Ok"), list(0, 4, 6))
	noPairing(t, "no budget", w.r, w.entries, w.a, list(0, -5), nil)
	noPairing(t, "no points", w.r, lists(nil), w.a, budgets(), api.ErrArg)
	bare := worldOf(t, example)
	noPairing(t, "the alphabet of the rules alone", w.r, w.entries, bare.a, budgets(), api.ErrLost)
}

// P17.1, P17.5: the least budget is the pairing's size, and a greater one changes nothing.
func TestP17_5_Budgets(t *testing.T) {
	for _, w := range []world{
		worldOf(t, "else <>"), worldOf(t, "suppress\nelse <>", "a"), worldOf(t, example), worldOf(t, example, "Hi.", "z. B."), worldOf(t, "A: 'a' 'b' [^]* <> 'c'\nelse ><"), worldOf(t, "suppress Sp\nelse ><", "Mr.", "Mrs.", "Dr.", "e. g."),
	} {
		want, err := pair.Of(w.r, w.entries, w.a, most)
		if err != nil {
			t.Fatal(err)
		}
		size := pair.Size(want)
		for budget := -3; budget < size+40; budget++ {
			p, ok, err := merge.Of(w.r, w.entries, w.a, budget)
			if budget < size && (ok || !same(p, api.Pairing{})) || budget >= size && (!ok || !same(p, want)) || err != nil {
				t.Errorf("P17.5: budget %d of %d: %s, %v, %v", budget, size, brief(p), ok, err)
			}
		}
		for _, budget := range []int{api.MaxStates, most, most + 1, math.MaxInt} {
			if p, ok, err := merge.Of(w.r, w.entries, w.a, budget); !ok || err != nil || !same(p, want) {
				t.Errorf("P17.5: budget %d: %v, %v", budget, ok, err)
			}
		}
		noPairing(t, "less than one state each", w.r, w.entries, w.a, list(1, 0, -1, math.MinInt), nil)
	}
}

// With Suppress -1 entries are not looked at, whatever they are.
func TestP17_1_NoSuppress(t *testing.T) {
	w := worldOf(t, "A: ATerm <>\nelse ><")
	want := made(t, w)
	for _, entries := range [][][]int{nil, lists(nil), lists(list(-1)), lists(list('a'), list('a')), make([][]int, 2001), lists(make([]int, 40))} {
		if p, ok, err := merge.Of(w.r, entries, w.a, most); !ok || err != nil || !same(p, want) {
			t.Errorf("P17.1: Suppress -1: %s, %v, %v", brief(p), ok, err)
		}
		patterned(t, w.r, entries, [][3]int{{0, -1, 0}})
	}
}

// P17.3 and P17.6 of many rules and entries; the machines are the least.
func TestP17_3_Samples(t *testing.T) {
	d := newDrawn(173)
	hidden := 0
	for range 800 {
		texts := d.entries()
		w := worldOf(t, d.rules(), texts...)
		p := made(t, w)
		if want, err := pair.Of(w.r, w.entries, w.a, most); err != nil || !same(p, want) {
			t.Fatalf("P17.1: Of(%s, %v) = %s, want %s, %v", brief(w.r), w.entries, brief(p), brief(want), err)
		}
		if !minimal.Is(p.Left, w.a.Symbols()) || !minimal.Is(p.Right, w.a.Symbols()) {
			t.Fatalf("P17.1: Of(%s, %v): not the least machines", brief(w.r), w.entries)
		}
		stands(t, w, p)
		f := w.beside(t)
		for range 8 {
			text := d.textWith(texts)
			word := w.word(text)
			want, err := f.Breaks(pointsOf(text), word)
			if err != nil {
				t.Fatal(err)
			}
			breaks(t, "P17.3", p, word, want)
			breaks(t, "W1", p, word, rules.Breaks(w.r, w.entries, w.kinds(text)))
			hidden += len(f.Hidden(pointsOf(text), word))
		}
		if t.Failed() {
			t.Fatalf("rules %s, entries %v", brief(w.r), w.entries)
		}
	}
	if hidden < 2000 {
		t.Errorf("only %d places were hidden", hidden)
	}
}

// All texts of up to six units: an entry inside another one, one that overlaps itself, a trail that is part of one.
func TestP17_3_AllSmallTexts(t *testing.T) {
	for _, file := range []string{"suppress\nelse <>", "suppress Sp\nA: <>\nelse ><", "A: 'a' <> 'a'\nsuppress [Sp 'a']\nelse <>", "A: ^ 'a' <>\nB: ><  'b' $\nsuppress ' '\nelse <>"} {
		w := worldOf(t, file, "a.a", "aa", ". ", "b")
		p, f := made(t, w), w.beside(t)
		for length := range 7 {
			for number := range 1 << (2 * length) {
				text := make([]byte, length)
				for i := range text {
					text[i] = "ab. "[number>>(2*i)&3]
				}
				word := w.word(string(text))
				want, err := f.Breaks(pointsOf(string(text)), word)
				if err != nil {
					t.Fatal(err)
				}
				breaks(t, "P17.3", p, word, want)
			}
		}
		if t.Failed() {
			t.Fatal(file)
		}
	}
}

// stands is P17.6: each number is that of its pattern.
func stands(t *testing.T, w world, p api.Pairing) {
	t.Helper()
	all := merge.Patterns(w.r, w.entries)
	if len(all) != len(p.Breaks) {
		t.Fatalf("P17.6: %d patterns, %d Breaks", len(all), len(p.Breaks))
	}
	for i, pattern := range all {
		if want := pattern[0] >= 0 && w.r.Rules[pattern[0]].Break; p.Breaks[i] != want {
			t.Errorf("P17.6: number %d, pattern %v: Breaks %v", i, pattern, p.Breaks[i])
		}
	}
}

// The number that decides a place is told by its pattern.
func TestP17_6_Decided(t *testing.T) {
	w := worldOf(t, "A: 'x' <>\nB: 'y' ><\nsuppress ' '\nC: <>\nelse ><", "ab", "c")
	p := made(t, w)
	stands(t, w, p)
	numbers, err := pair.Decide(p, w.word("abc x y abz"))
	if err != nil {
		t.Fatal(err)
	}
	all := merge.Patterns(w.r, w.entries)
	want := [][3]int{{-1, 0, 1}, {-1, 0, 2}, {-1, 1, 1}, {-1, 1, 1}, {0, -1, 0}, {2, -1, 0}, {1, -1, 0}, {2, -1, 0}, {-1, 0, 1}, {-1, 0, 2}}
	for i, number := range numbers {
		if number < 0 || all[number] != want[i] {
			t.Errorf("P17.6: place %d: number %d, want that of %v", i+1, number, want[i])
		}
	}
	// a pairing of rules of both sorts, on each side of the suppressions
	for suppress := range 5 {
		r := parsed(t, "A: <>\nB: ><\nC: <>\nD: ><\nelse <>")
		r.Suppress = suppress
		w := worldWith(t, r, entriesOf("Hi.", "a", "b."))
		stands(t, w, made(t, w))
	}
}

func TestP17_4_MoreEntries(t *testing.T) {
	d := newDrawn(174)
	fewer := 0
	for range 500 {
		texts := d.entries()
		w := worldOf(t, d.rules(), texts...)
		some := w
		some.entries = nil
		for _, entry := range w.entries {
			if d.Intn(2) == 0 {
				some.entries = append(some.entries, entry)
			}
		}
		d.Shuffle(len(some.entries), func(i, j int) {
			some.entries[i], some.entries[j] = some.entries[j], some.entries[i]
		})
		p, q := made(t, w), made(t, some)
		for range 6 {
			word := w.word(d.textWith(texts))
			with, _ := pair.Breaks(p, word)
			without, _ := pair.Breaks(q, word)
			for _, place := range with {
				if !slices.Contains(without, place) {
					t.Fatalf("P17.4: %v: %v, with fewer entries %v: %v", w.entries, with, some.entries, without)
				}
			}
			fewer += len(without) - len(with)
		}
	}
	if fewer < 500 {
		t.Errorf("P17.4: only %d boundaries were taken away", fewer)
	}
}

// Bad units stand in no entry, and are trail where Trail holds them.
func TestP17_3_BadUnits(t *testing.T) {
	w := worldOf(t, "suppress Other\nelse <>", "a.", "\uFFFD")
	p, f := made(t, w), w.beside(t)
	for text, want := range map[string][]int{"a.\xff\xffb": list(0, 5), "a\xff.b": list(0, 1, 2, 3, 4), "\xffb": list(0, 1, 2), "\uFFFDb": list(0, 2), "a.\u00e9\xff\uFFFDbb": list(0, 6, 7)} {
		word := w.word(text)
		breaks(t, "P17.3", p, word, want)
		if got, err := f.Breaks(pointsOf(text), word); err != nil || !slices.Equal(got, want) {
			t.Errorf("P17.3: the filter, %q: %v, %v, want %v", text, got, err, want)
		}
	}
}
