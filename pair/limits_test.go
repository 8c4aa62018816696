package pair_test

import (
	"slices"
	"testing"

	"caesura/alphabet"
	"caesura/api"
	"caesura/pair"
)

// sided puts an expression on the left, from the text's start on, or on the right, to its end.
func sided(name string, e api.Expr, left, whole bool) api.Rule {
	if left {
		return api.Rule{Name: name, Left: e, Right: node(api.ExprEmpty), Start: whole}
	}
	return api.Rule{Name: name, Left: node(api.ExprEmpty), Right: e, End: whole}
}

func outsOf(m api.Machine) int {
	count := 0
	for _, out := range m.Out {
		count += len(out)
	}
	return count
}

func sideOf(p api.Pairing, left bool) api.Machine {
	if left {
		return p.Left
	}
	return p.Right
}

// The symbols are a and all others. There is a state for each row of thirteen symbols (8192), for each shorter one that is the whole (8190), for nothing; and so many more for rows of a alone.
func TestP14_1_MaxStates(t *testing.T) {
	a, all := set(api.Set{Points: []api.Range{{Low: 'a', High: 'a'}}}), set(api.Set{Not: true})
	twelve := slices.Repeat([]api.Expr{all}, 12)
	for _, left := range []bool{true, false} {
		far := node(api.ExprSeq, append(slices.Clone(twelve), a)...)
		if left {
			far = node(api.ExprSeq, append([]api.Expr{a}, twelve...)...)
		}
		rules := func(more int) api.Rules {
			return api.Rules{Suppress: -1, Rules: []api.Rule{sided("A", far, left, false), sided("B", row(12, all), left, true), sided("C", row(12+more, a), left, true)}}
		}
		w := worldWith(t, rules(1), nil)
		made(t, w)
		refused(t, "a machine of 16385 states", rules(2), nil, w.a, most, api.ErrMany)
	}
}

// 14 sets of points tell 16384 symbols; the machine of a whole row of n has n + 2 states.
func TestP14_1_MaxCells(t *testing.T) {
	var sets []api.Set
	for bit := range 14 {
		var s api.Set
		for point := range api.MaxSymbols {
			if point>>bit&1 == 0 {
				continue
			}
			if n := len(s.Points); n > 0 && s.Points[n-1].High == point-1 {
				s.Points[n-1].High = point
			} else {
				s.Points = append(s.Points, api.Range{Low: point, High: point})
			}
		}
		sets = append(sets, s)
	}
	one := api.Set{Points: []api.Range{{Low: 5, High: 5}}}
	a := alphabetOf(t, tableOf(t, ""), append(sets, one))
	if a.Symbols() != api.MaxSymbols {
		t.Fatal(a.Symbols())
	}
	for _, left := range []bool{true, false} {
		rules := func(n int) api.Rules {
			return api.Rules{Suppress: -1, Rules: []api.Rule{sided("A", row(n, set(one)), left, true)}}
		}
		if p, err := pair.Of(rules(254), nil, a, most); err != nil || len(sideOf(p, left).Next) != 256 || pair.Size(p) != 257 {
			t.Errorf("P14.1: 256 states of 16384 symbols: %d, %v", pair.Size(p), err)
		}
		refused(t, "257 states of 16384 symbols", rules(255), nil, a, most, api.ErrMany)
	}
}

// singles are so many entries of one point each, that stand at no place of a rule.
func singles(n int) [][]int {
	var entries [][]int
	for i := range n {
		entries = append(entries, list(0x1000+i))
	}
	return entries
}

// behind is so many entries of two points, a and another one.
func behind(n int) [][]int {
	entries := singles(n)
	for i := range entries {
		entries[i] = append(list('a'), entries[i]...)
	}
	return entries
}

// named is so many rules of one whole row of a.
func named(count, n int, left bool) []api.Rule {
	a := set(api.Set{Points: []api.Range{{Low: 'a', High: 'a'}}})
	var l []api.Rule
	for i := range count {
		l = append(l, sided(string(rune('A'+i)), row(n, a), left, true))
	}
	return l
}

// 1048575 is 1025 * 1023 and 341 * 3075. Right tells all entries in each of its states. Left tells the first point of all entries at each a, and each entry behind it, once.
func TestP14_1_MaxOuts(t *testing.T) {
	for _, c := range []struct {
		left    bool
		entries [][]int
		length  int
	}{{false, singles(1025), 1021}, {true, behind(341), 3073}} {
		r := api.Rules{Rules: named(1, c.length, c.left)}
		w := worldWith(t, r, c.entries)
		p := made(t, w)
		if outs := outsOf(sideOf(p, c.left)); outs != api.MaxOuts {
			t.Errorf("P14.1: %d numbers in Outs, want %d", outs, api.MaxOuts)
		}
		if err := pair.Check(p, w.a.Symbols()); err != nil {
			t.Errorf("P14.2: %v", err)
		}
		r.Rules = named(2, c.length, c.left)
		refused(t, "a number in Outs too many", r, c.entries, w.a, most, api.ErrMany)
	}
}

// Of the machines as they are built: 2000 entries in each of 2098 states are more than MaxCells numbers.
func TestP14_1_MaxOutsBuilt(t *testing.T) {
	entries := singles(2000)
	r := api.Rules{Rules: named(1, 2096, false)}
	w := worldWith(t, r, entries)
	refused(t, "the Outs of a machine as it is built", r, entries, w.a, most, api.ErrMany)
}

func TestP14_1_Greatest(t *testing.T) {
	// MaxEntries
	w := worldWith(t, api.Rules{Else: true}, singles(2000))
	p := made(t, w)
	if len(p.Breaks) != 2000 || len(p.Left.Next) != 2001 || len(p.Right.Next) != 1 {
		t.Errorf("P14.1: 2000 entries: %d rules, %d and %d states", len(p.Breaks), len(p.Left.Next), len(p.Right.Next))
	}
	breaks(t, "P14.6", p, w.word("\u1000x\u17cfx\u17d0xx"), list(0, 2, 4, 5, 6, 7))
	// MaxEntry
	long := slices.Repeat(list('a'), api.MaxEntry)
	w = worldWith(t, api.Rules{Else: true}, lists(long))
	p = made(t, w)
	if len(p.Breaks) != api.MaxEntry {
		t.Errorf("P14.1: 32 points: %d rules", len(p.Breaks))
	}
	text := "b" + string(slices.Repeat([]byte("a"), api.MaxEntry)) + "bb"
	breaks(t, "P14.6", p, w.word(text), list(0, 1, 34, 35))
	breaks(t, "P14.6", p, w.word(text[2:]), slices.Concat(rising(33), list(33)))
	// MaxRules
	w = worldWith(t, api.Rules{Suppress: 32, Rules: manyRules(api.MaxRules)}, entriesOf("ab"))
	p = made(t, w)
	if len(p.Breaks) != api.MaxRules+2 {
		t.Errorf("P14.1: 64 rules: %d numbers", len(p.Breaks))
	}
	decides(t, p, w.word("abc"), list(0, 0))
}

// The Trail counts in the expression of each entry.
func TestP14_1_GreatTrail(t *testing.T) {
	for _, size := range []int{1, 2, api.MaxEntry} {
		entry := slices.Repeat(list(1), size)
		table := tableOf(t, "")
		sets := func(n int) *alphabet.Alphabet {
			return alphabetOf(t, table, []api.Set{ranging(n), {Points: []api.Range{{Low: 1, High: 1}}}})
		}
		fits := api.MaxSpans - size
		if _, err := pair.Of(api.Rules{Trail: ranging(fits)}, lists(entry), sets(fits), most); err != nil {
			t.Errorf("P14.1: a Trail of %d ranges: %v", fits, err)
		}
		refused(t, "a Trail of a range more", api.Rules{Trail: ranging(fits + 1)}, lists(entry), sets(fits+1), most, api.ErrMany)
	}
	whole := api.Rules{Trail: ranging(api.MaxSpans), Else: true}
	a := alphabetOf(t, tableOf(t, ""), []api.Set{whole.Trail})
	if p, err := pair.Of(whole, nil, a, most); err != nil || pair.Size(p) != 2 {
		t.Errorf("P14.1: a Trail of MaxSpans and no entries: %v", err)
	}
}

func rising(n int) []int {
	l := make([]int, n)
	for i := range l {
		l[i] = i
	}
	return l
}

// manyRules are so many that fit everywhere.
func manyRules(n int) []api.Rule {
	var l []api.Rule
	for i := range n {
		l = append(l, rule(string(rune('A'+i/26))+string(rune('A'+i%26)), node(api.ExprEmpty), node(api.ExprEmpty)))
	}
	return l
}

// The greatest entries: 62000 cuts, with a million points on their sides.
func TestP14_8_GreatEntries(t *testing.T) {
	d := newDrawn(148)
	var entries [][]int
	for range api.MaxEntries {
		entry := make([]int, api.MaxEntry)
		for i := range entry {
			entry[i] = 'a' + d.Intn(26)
		}
		entries = append(entries, entry)
	}
	w := worldWith(t, api.Rules{}, entries)
	refused(t, "2000 entries of 32 points", w.r, entries, w.a, most, api.ErrMany)
}
