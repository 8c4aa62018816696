package filter_test

import (
	"fmt"
	"math/rand"
	"slices"
	"strings"
	"testing"

	"caesura/alphabet"
	"caesura/api"
	"caesura/filter"
	"caesura/pair"
	"caesura/propfile"
	"caesura/props"
	"caesura/rules"
	"caesura/trie"
	"caesura/units"
)

// isHidden is the chapter's words, for an entry that stands at s.
func isHidden(i, s, m int, word, trail []int) bool {
	if s < i && i < s+m {
		return true
	}
	if s+m > i {
		return false
	}
	return !slices.ContainsFunc(word[s+m:i], func(symbol int) bool { return !slices.Contains(trail, symbol) })
}

func hiddenBy(before int, trail []int, entries [][]int, points, word []int) []int {
	var places []int
	if before < 0 || len(points) != len(word) {
		return nil
	}
next:
	for i := 1; i < len(points); i++ {
		for s := range points {
			for _, entry := range entries {
				m := len(entry)
				if s+m <= len(points) && slices.Equal(points[s:s+m], entry) && isHidden(i, s, m, word, trail) {
					places = append(places, i)
					continue next
				}
			}
		}
	}
	return places
}

// breaksBy is P16.3 as it stands there.
func breaksBy(p api.Pairing, before int, trail []int, entries [][]int, points, word []int) ([]int, error) {
	if len(points) != len(word) {
		return nil, api.ErrArg
	}
	numbers, err := pair.Decide(p, word)
	if err != nil || len(word) == 0 {
		return nil, err
	}
	hidden := hiddenBy(before, trail, entries, points, word)
	places := []int{0}
	for i, d := range numbers {
		switch place := i + 1; {
		case slices.Contains(hidden, place) && (d == -1 || d >= before):
		case d == -1 && p.Else, d >= 0 && p.Breaks[d]:
			places = append(places, place)
		}
	}
	return append(places, len(word)), nil
}

// errorBy is P16.1 as it stands there.
func errorBy(p api.Pairing, symbols, before int, trail []int, entries [][]int) error {
	if err := pair.Check(p, symbols); err != nil {
		return err
	}
	if before < -1 || before > len(p.Breaks) {
		return api.ErrArg
	}
	for i, symbol := range trail {
		if symbol < 0 || symbol > symbols-1 || i > 0 && trail[i-1] >= symbol {
			return api.ErrArg
		}
	}
	_, err := trie.New(entries)
	return err
}

// holds asks a filter everything about a text.
func holds(t *testing.T, p api.Pairing, before int, trail []int, entries [][]int, points, word []int) {
	t.Helper()
	f := made(t, p, len(p.Left.Next[0]), before, trail, entries)
	asked(t, f, p, before, trail, entries, points, word)
}

func asked(t *testing.T, f *filter.Filter, p api.Pairing, before int, trail []int, entries [][]int, points, word []int) {
	t.Helper()
	if got, want := f.Hidden(points, word), hiddenBy(before, trail, entries, points, word); !slices.Equal(got, want) {
		t.Fatalf("P16.2: before %d, trail %v, entries %v: Hidden(%v, %v) = %v, want %v", before, trail, entries, points, word, got, want)
	}
	want, wanted := breaksBy(p, before, trail, entries, points, word)
	if got, err := f.Breaks(points, word); err != wanted || !slices.Equal(got, want) {
		t.Fatalf("P16.3: %v, before %d, trail %v, entries %v: Breaks(%v, %v) = %v, %v, want %v, %v", p, before, trail, entries, points, word, got, err, want, wanted)
	}
}

// All texts of up to six units, under all trails.
func TestP16_2_AllSmallTexts(t *testing.T) {
	p := api.Pairing{Left: every(0), Right: every(0, 1), Breaks: []bool{true, false}, Else: true}
	letters := list('a', '.', ' ', api.Bad)
	for _, entries := range [][][]int{lists("a."), lists("a.", ".a"), lists("a", ". "), lists("  ", "a a"), lists(".", "a.a")} {
		for trailed := range 8 {
			var trail []int
			for symbol := range 3 {
				if trailed>>symbol&1 == 1 {
					trail = append(trail, symbol)
				}
			}
			f := made(t, p, 3, trailed%3, trail, entries)
			for n := range 7 {
				for number := range 1 << (2 * n) {
					text, word := make([]int, n), make([]int, n)
					for i := range n {
						letter := number >> (2 * i) & 3
						text[i], word[i] = letters[letter], letter%3
					}
					asked(t, f, p, trailed%3, trail, entries, text, word)
				}
			}
		}
	}
}

type drawn struct{ *rand.Rand }

func newDrawn(seed int64) drawn { return drawn{rand.New(rand.NewSource(seed))} }

func (d drawn) word(most, symbols int) []int {
	word := make([]int, d.Intn(most+1))
	for i := range word {
		word[i] = d.Intn(symbols)
	}
	return word
}

func (d drawn) points(n int) []int {
	l := make([]int, n)
	for i := range l {
		l[i] = list('a', 'a', 'b', '.', api.Bad)[d.Intn(5)]
	}
	return l
}

func (d drawn) trail(symbols int) []int {
	var trail []int
	for symbol := range symbols {
		if d.Intn(2) == 0 {
			trail = append(trail, symbol)
		}
	}
	return trail
}

// entries are different ones.
func (d drawn) entries(count, most int) [][]int {
	var entries [][]int
	for range d.Intn(count + 1) {
		e := d.points(1 + d.Intn(most))
		if !slices.Contains(e, api.Bad) && !slices.ContainsFunc(entries, func(o []int) bool { return slices.Equal(o, e) }) {
			entries = append(entries, e)
		}
	}
	return entries
}

func (d drawn) machine(symbols, patterns int) api.Machine {
	states := 1 + d.Intn(4)
	m := api.Machine{Start: d.Intn(states)}
	for range states {
		row := make([]int, symbols)
		for i := range row {
			row[i] = d.Intn(states)
		}
		var out []int
		for number := range patterns {
			if d.Intn(2) == 0 {
				out = append(out, number)
			}
		}
		m.Next, m.Out = append(m.Next, row), append(m.Out, out)
	}
	return m
}

// pairing is one over three symbols, of any machines.
func (d drawn) pairing() api.Pairing {
	p := api.Pairing{Else: d.Intn(2) == 0}
	for range d.Intn(5) {
		p.Breaks = append(p.Breaks, d.Intn(2) == 0)
	}
	p.Left, p.Right = d.machine(3, len(p.Breaks)), d.machine(3, len(p.Breaks))
	return p
}

// The symbols of units hang on nothing here, and now and then one is wrong.
func TestP16_3_Samples(t *testing.T) {
	d := newDrawn(163)
	for i := range 12000 {
		p := d.pairing()
		word := d.word(16, 3)
		text := d.points(len(word))
		switch {
		case len(word) > 0 && i%10 == 0:
			word[d.Intn(len(word))] = list(-1, 3, 1<<40)[d.Intn(3)]
		case i%10 == 1:
			text = d.points(d.Intn(len(word) + 2))
		}
		holds(t, p, d.Intn(len(p.Breaks)+2)-1, d.trail(3), d.entries(7, 4), text, word)
	}
}

func TestP16_1_Samples(t *testing.T) {
	d := newDrawn(161)
	told := map[error]int{}
	for range 20000 {
		p, symbols, trail, entries := d.pairing(), 3, d.trail(3), d.entries(4, 3)
		before := d.Intn(len(p.Breaks)+2) - 1
		for range d.Intn(3) {
			switch d.Intn(6) {
			case 0:
				symbols = 1 + d.Intn(4)
			case 1:
				before = list(-2, len(p.Breaks)+1)[d.Intn(2)]
			case 2:
				trail = append(trail, d.Intn(5)-1)
			case 3:
				entries = append(entries, list('a'), list('a'))
			case 4:
				entries = append(entries, make([]int, 33))
			case 5:
				p.Right.Out[0] = append(p.Right.Out[0], len(p.Breaks))
			}
		}
		want := errorBy(p, symbols, before, trail, entries)
		told[want]++
		f, err := filter.New(p, symbols, before, trail, entries)
		if err != want || (f == nil) != (want != nil) {
			t.Fatalf("P16.1: New(%v, %d, %d, %v, %v): %v, want %v", p, symbols, before, trail, entries, err, want)
		}
	}
	for _, err := range []error{nil, api.ErrArg, api.ErrMany, api.ErrTwice} {
		if told[err] < 500 {
			t.Errorf("%v: %d samples", err, told[err])
		}
	}
}

// world is rules with the alphabet of their sets: no entry is in it.
type world struct {
	r     api.Rules
	table *props.Table
	a     *alphabet.Alphabet
	p     api.Pairing
	trail []int
}

const classes = "0041..005A;Upper\n0061..007A;Lower\n002E;ATerm\n0020;Sp"

func worldOf(t *testing.T, text string) world {
	t.Helper()
	property, _, err := propfile.Parse(classes)
	if err != nil {
		t.Fatal(err)
	}
	var w world
	if w.table, err = props.New(property); err != nil {
		t.Fatal(err)
	}
	if w.r, _, err = rules.Parse(text); err != nil {
		t.Fatalf("%q: %v", text, err)
	}
	if w.a, err = alphabet.New(w.table, alphabet.Sets(w.r, nil)); err != nil {
		t.Fatal(err)
	}
	if w.p, err = pair.Of(w.r, nil, w.a, 2*api.MaxStates); err != nil {
		t.Fatal(err)
	}
	if w.r.Suppress >= 0 {
		if w.trail, err = w.a.Letters(w.r.Trail); err != nil {
			t.Fatal(err)
		}
	}
	return w
}

func (w world) kinds(text string) []api.Kind {
	names := w.table.Names()
	var kinds []api.Kind
	for _, u := range units.Split(text) {
		kinds = append(kinds, api.Kind{Class: names[w.table.Class(u.Point)], Point: u.Point})
	}
	return kinds
}

func pointsOf(text string) []int {
	var l []int
	for _, u := range units.Split(text) {
		l = append(l, u.Point)
	}
	return l
}

// is: P16.4, the filter is the B of the page, and the pairing with the entries among the rules.
func (w world) is(t *testing.T, entries [][]int, texts ...string) {
	t.Helper()
	f := made(t, w.p, w.a.Symbols(), w.r.Suppress, w.trail, entries)
	a, err := alphabet.New(w.table, alphabet.Sets(w.r, entries))
	if err != nil {
		t.Fatal(err)
	}
	merged, err := pair.Of(w.r, entries, a, 2*api.MaxStates)
	if err != nil {
		t.Fatal(err)
	}
	for _, text := range texts {
		l := units.Split(text)
		want := rules.Breaks(w.r, entries, w.kinds(text))
		breaks(t, "P16.4", f, pointsOf(text), w.a.Word(l), want)
		if other, err := pair.Breaks(merged, a.Word(l)); err != nil || !slices.Equal(other, want) {
			t.Errorf("P16.4: %q, merged: %v, %v, want %v", text, other, err, want)
		}
	}
	if t.Failed() {
		t.Fatalf("rules %v, entries %v", w.r, entries)
	}
}

func TestP16_4_Rules(t *testing.T) {
	w := worldOf(t, "suppress Sp\nA: ATerm Sp* >< Lower\nB: ATerm >< Sp\nC: ATerm Sp+ >< Sp\nD: ATerm Sp* <>\nelse ><")
	w.is(t, lists("Hi.", "z. B."), "Hi. Ok", "Ho. Ok", "Hi.  Ok. Hi. ", "so z. B. Hi. Q. W", "", "H", "\xff. \xff", "Hi.\xff Ok. A")
	f := made(t, w.p, w.a.Symbols(), w.r.Suppress, w.trail, lists("Hi."))
	breaks(t, "P16.4", f, pointsOf("Hi. Ok"), w.a.Word(units.Split("Hi. Ok")), list(0, 6))
	breaks(t, "P16.4", f, pointsOf("Ho. Ok"), w.a.Word(units.Split("Ho. Ok")), list(0, 4, 6))
}

func (d drawn) one(of ...string) string { return of[d.Intn(len(of))] }

func (d drawn) set() string {
	return d.one("Upper", "Lower", "ATerm", "Sp", "Other", "[^]", "[]", "[^ Lower]", "[^ Sp 'a']", "'a'", "'b'..'d'", "[Sp ATerm]")
}

func (d drawn) side() string {
	var b strings.Builder
	for range d.Intn(4) {
		b.WriteString(" " + d.set() + d.one("", "", "*", "+", "?"))
	}
	return b.String()
}

func (d drawn) rules() string {
	var lines []string
	for i := range d.Intn(6) {
		lines = append(lines, fmt.Sprint("R", i, ": ", d.one("", "", "^ "), d.side(), d.one(" >< ", " <> "), d.side(), d.one("", "", " $")))
	}
	if d.Intn(10) > 0 {
		lines = slices.Insert(lines, d.Intn(len(lines)+1), d.one("suppress", "suppress Sp", "suppress "+d.set()))
	}
	return strings.Join(append(lines, "else "+d.one("><", "<>", "<>")), "\n")
}

func (d drawn) text(most int, of ...string) string {
	var b strings.Builder
	for range d.Intn(most + 1) {
		b.WriteString(d.one(of...))
	}
	return b.String()
}

func TestP16_4_Samples(t *testing.T) {
	d := newDrawn(164)
	for range 600 {
		var entries [][]int
		var met []string
		for range d.Intn(5) {
			text := d.text(4, "a", "b", ".", " ", "A", "\u00e9")
			if text != "" && !slices.Contains(met, text) {
				met = append(met, text)
				entries = append(entries, pointsOf(text))
			}
		}
		var texts []string
		for range 8 {
			texts = append(texts, d.text(10, append(met, "a", "b", "z", "A", ".", " ", "\u00e9", "\xff")...))
		}
		worldOf(t, d.rules()).is(t, entries, texts...)
	}
}
