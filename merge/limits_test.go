package merge_test

import (
	"fmt"
	"slices"
	"testing"

	"caesura/alphabet"
	"caesura/api"
	"caesura/merge"
	"caesura/pair"
	"caesura/rules"
)

// far is a rule that looks so many units far for an a: more than 2^n sets of places.
func far(name string, n int, left bool) api.Rule {
	a, all := set(point('a')), set(api.Set{Not: true})
	parts := slices.Repeat([]api.Expr{all}, n)
	if left {
		return sided(name, node(api.ExprSeq, append([]api.Expr{a}, parts...)...), left, false)
	}
	return sided(name, node(api.ExprSeq, append(parts, a)...), left, false)
}

// little is so many rules that fit everywhere.
func little(n int) []api.Rule {
	var l []api.Rule
	for i := range n {
		l = append(l, sided(fmt.Sprint("L", i), node(api.ExprEmpty), true, false))
	}
	return l
}

// much has 1025 * 1025 pairs of places that follow one another: one row more than may be.
func much(e api.Expr) api.Expr {
	return node(api.ExprStar, node(api.ExprAlt, slices.Repeat([]api.Expr{e}, 1025)...))
}

// refusal is one thing that is told, and why.
type refusal struct {
	what    string
	r       api.Rules
	entries [][]int
	a       *alphabet.Alphabet
	want    error
}

func refusals(t *testing.T) []refusal {
	w, bare := worldOf(t, example, "Hi."), worldOf(t, example)
	with := func(suppress int, l ...api.Rule) api.Rules {
		return api.Rules{Rules: l, Suppress: suppress, Trail: w.r.Trail}
	}
	without := func(l ...api.Rule) api.Rules { return api.Rules{Rules: l, Suppress: -1} }
	known, lost := set(w.r.Trail), set(api.Set{Names: []string{"Zed"}})
	long, hi := slices.Repeat(list('H'), 33), w.entries
	greatAhead := []api.Rule{far("F", 16, true)}
	both := alphabetOf(t, append(alphabet.Sets(w.r, hi), point('a'), api.Set{Not: true}))
	return []refusal{
		{"a name", with(0, append([]api.Rule{{Name: "9"}}, w.r.Rules...)...), hi, w.a, api.ErrText},
		{"a rule twice", with(0, w.r.Rules[0], w.r.Rules[0]), hi, w.a, api.ErrTwice},
		{"a side", with(0, api.Rule{Name: "A"}), hi, w.a, api.ErrArg},
		{"Suppress", with(-2, w.r.Rules...), hi, w.a, api.ErrArg},
		{"Suppress", with(5, w.r.Rules...), hi, w.a, api.ErrArg},
		{"a Trail", with(-1, w.r.Rules...), hi, w.a, api.ErrArg},
		{"65 rules", without(little(65)...), nil, w.a, api.ErrMany},
		{"65 rules and a machine that is too great", without(append(little(64), greatAhead...)...), nil, both, api.ErrMany},
		{"4001 nodes", with(0, sided("A", row(4000, known), true, false)), hi, w.a, api.ErrMany},
		{"4001 nodes on the right", with(1, w.r.Rules[0], sided("B", row(4000, known), false, false)), hi, w.a, api.ErrMany},
		{"2001 entries", w.r, make([][]int, 2001), w.a, api.ErrMany},
		{"no point", w.r, lists(list('H'), nil), w.a, api.ErrArg},
		{"no scalar value", w.r, lists(list('H', 0xD800)), w.a, api.ErrArg},
		{"33 points", w.r, lists(long), w.a, api.ErrMany},
		{"33 points behind others", w.r, lists(list('H'), list('i'), long), w.a, api.ErrMany},
		{"33 points, and then what is wrong", w.r, lists(long, nil, slices.Repeat(list(-1), 40)), w.a, api.ErrMany},
		{"33 points and a machine that is too great", with(1, greatAhead...), lists(long), both, api.ErrMany},
		{"2001 entries and a machine that is too great", with(1, greatAhead...), make([][]int, 2001), both, api.ErrMany},
		{"an entry twice", w.r, lists(hi[0], hi[0]), w.a, api.ErrTwice},
		{"an entry twice and a machine that is too great", with(1, greatAhead...), lists(hi[0], hi[0]), both, api.ErrTwice},
		{"a point that is lost", bare.r, hi, bare.a, api.ErrLost},
		{"a set that is lost", with(0, sided("A", lost, true, false)), hi, w.a, api.ErrLost},
		{"a set that is lost and a machine that is too great", with(0, greatAhead[0], sided("A", lost, false, false)), hi, both, api.ErrLost},
		{"places that follow one another", with(1, sided("A", much(known), true, false)), hi, w.a, api.ErrMany},
		{"the same on the right", with(1, sided("A", much(known), false, false)), hi, w.a, api.ErrMany},
		{"the same behind the suppressions", with(0, sided("A", much(known), false, false)), hi, w.a, api.ErrMany},
		{"the same without suppressions", without(w.r.Rules[0], w.r.Rules[1], sided("D", much(known), true, true)), lists(nil), w.a, api.ErrMany},
		{"the same ahead of a set that is lost", with(0, sided("A", much(known), true, false), sided("B", lost, true, false)), hi, w.a, api.ErrMany},
		{"the same behind a set that is lost", with(0, sided("A", lost, true, false), sided("B", much(known), true, false)), hi, w.a, api.ErrLost},
		{"the same and a machine that is too great", with(0, greatAhead[0], sided("B", much(known), true, false)), hi, both, api.ErrMany},
		{"the same in the last of 64 rules", without(append(little(63), sided("Lost", much(known), true, false))...), nil, both, api.ErrMany},
	}
}

// What may not be is told, whatever the budget.
func TestP17_1_Refusals(t *testing.T) {
	for _, c := range refusals(t) {
		noPairing(t, c.what, c.r, c.entries, c.a, budgets(), c.want)
		if err := toldBy(c.r, c.entries, c.a); err != c.want {
			t.Errorf("%s: the second version says %v, want %v", c.what, err, c.want)
		}
	}
}

// The Trail counts in the expression of each entry; without entries it is not looked at.
func TestP17_1_GreatTrail(t *testing.T) {
	for _, size := range []int{1, 2, api.MaxEntry} {
		entries := lists(slices.Repeat(list(1), size))
		if size > 1 {
			entries = append(entries, list(1))
		}
		fits := api.MaxSpans - size
		w := worldWith(t, api.Rules{Trail: ranging(fits)}, entries)
		made(t, w)
		w = worldWith(t, api.Rules{Trail: ranging(fits + 1)}, entries)
		noPairing(t, "a Trail of a range more", w.r, entries, w.a, list(0, most), api.ErrMany)
	}
	rule := far("A", 16, true)
	w := worldWith(t, api.Rules{Rules: []api.Rule{rule}, Trail: ranging(api.MaxSpans)}, nil)
	noPairing(t, "a Trail of MaxSpans, no entries, a machine that is too great", w.r, nil, w.a, list(0, most), nil)
	noPairing(t, "with an entry", w.r, lists(list(1)), w.a, list(0, most), api.ErrMany)
	// the Trail need not be a set of the alphabet, if there are no entries
	w.r.Trail = api.Set{Names: []string{"Zed"}}
	noPairing(t, "a Trail that is lost, and no entries", w.r, nil, w.a, list(0, most), nil)
	noPairing(t, "a Trail that is lost, and an entry", w.r, lists(list('a')), w.a, list(0, most), api.ErrLost)
}

// A machine that has too many states is no refusal.
func TestP17_1_MaxStates(t *testing.T) {
	for _, left := range []bool{true, false} {
		// Rows of thirteen symbols, shorter whole ones, nothing; and whole rows of a alone: 16384 states with 13 of these.
		all := set(api.Set{Not: true})
		rules := func(more int) api.Rules {
			return api.Rules{Rules: []api.Rule{far("A", 12, left), sided("B", row(12, all), left, true), sided("C", row(12+more, set(point('a'))), left, true)}, Suppress: -1}
		}
		w := worldWith(t, rules(1), nil)
		made(t, w)
		noPairing(t, "a machine of 16385 states", rules(2), nil, w.a, budgets(), nil)
		for _, suppress := range []int{-1, 0, 1} {
			r := api.Rules{Rules: []api.Rule{far("A", 14, left)}, Suppress: suppress}
			w := worldWith(t, r, entriesOf("ab", "c"))
			noPairing(t, "2^15 states", r, w.entries, w.a, budgets(), nil)
			if _, err := pair.Of(r, w.entries, w.a, most); err != api.ErrMany {
				t.Errorf("P14.1: 2^15 states: %v", err)
			}
		}
	}
}

// So it is with rules of any names, as many as may be, and entries that are not looked at.
func TestP17_1_GreatRules(t *testing.T) {
	for _, name := range []string{"A", "Asked", "Lost", "Zed"} {
		l := append(little(62), far(name, 14, true), far(name+"2", 14, false))
		w := worldWith(t, api.Rules{Rules: l, Suppress: 62}, entriesOf("ab"))
		noPairing(t, "64 rules", w.r, w.entries, w.a, list(0, most), nil)
	}
	w := worldWith(t, api.Rules{Rules: []api.Rule{far("A", 14, true)}, Suppress: -1}, nil)
	for _, entries := range [][][]int{lists(nil), make([][]int, 2001), lists(make([]int, 40)), lists(list('q'), list('q'))} {
		noPairing(t, "entries that are not looked at", w.r, entries, w.a, list(0, most), nil)
	}
}

// Alphabets may know 4096 sets, whichever: single points from an end on, or the names of classes.
func TestP17_1_FullAlphabets(t *testing.T) {
	r := api.Rules{Rules: []api.Rule{far("A", 14, true)}, Suppress: 1}
	own := alphabet.Sets(r, entriesOf("a"))
	for _, from := range []func(i int) api.Set{
		func(i int) api.Set { return point(api.MaxPoint - i) },
		func(i int) api.Set { return point(1000 + i) },
		func(i int) api.Set { return api.Set{Names: []string{fmt.Sprint("N", 10000+i)}} },
	} {
		sets := slices.Clone(own)
		for i := range api.MaxSets - len(own) {
			sets = append(sets, from(i))
		}
		a := alphabetOf(t, sets)
		noPairing(t, "a full alphabet", r, entriesOf("a"), a, list(0, most), nil)
		noPairing(t, "a point that it has not", r, entriesOf("b"), a, list(0, most), api.ErrLost)
		noPairing(t, "an entry that is too long", r, lists(slices.Repeat(list('a'), 33)), a, list(0, most), api.ErrMany)
	}
}

// Nothing but 4096 single points, the highest ones: of 4097 symbols a machine has at most 1023 states.
func TestP17_1_FullOfPoints(t *testing.T) {
	var sets []api.Set
	for i := range api.MaxSets {
		sets = append(sets, point(api.MaxPoint-i))
	}
	a := alphabetOf(t, sets)
	for _, s := range []api.Set{sets[0], sets[api.MaxSets-1]} {
		rules := func(n int) api.Rules {
			return api.Rules{Suppress: -1, Rules: []api.Rule{sided("A", row(n, set(s)), true, true)}}
		}
		if p, ok, err := merge.Of(rules(1021), nil, a, most); !ok || err != nil || pair.Size(p) != 1024 {
			t.Errorf("P17.1: 1023 states of 4097 symbols: %d, %v, %v", pair.Size(p), ok, err)
		}
		noPairing(t, "1024 states of 4097 symbols", rules(1022), nil, a, list(0, most), nil)
	}
	lost := api.Rules{Suppress: -1, Rules: []api.Rule{sided("A", row(1022, set(point(api.MaxPoint-api.MaxSets))), true, true)}}
	noPairing(t, "a point below them", lost, nil, a, list(0, most), api.ErrLost)
}

// signs is sets of points by which 16384 symbols are told apart.
func signs() []api.Set {
	var sets []api.Set
	for bit := range 14 {
		var s api.Set
		for low := 1 << bit; low < api.MaxSymbols; low += 2 << bit {
			s.Points = append(s.Points, api.Range{Low: low, High: low + 1<<bit - 1})
		}
		sets = append(sets, s)
	}
	return sets
}

// Of 16384 symbols a machine has at most 256 states: a whole row of n has n + 2. The letters of 257 sets that hold all are more than places may have.
func TestP17_1_MaxCells(t *testing.T) {
	one, all := point(5), api.Set{Not: true}
	a := alphabetOf(t, append(signs(), one, all))
	if a.Symbols() != api.MaxSymbols {
		t.Fatal(a.Symbols())
	}
	for _, left := range []bool{true, false} {
		rules := func(n int, s api.Set) api.Rules {
			return api.Rules{Suppress: -1, Rules: []api.Rule{sided("A", row(n, set(s)), left, true)}}
		}
		if p, ok, err := merge.Of(rules(254, one), nil, a, 257); !ok || err != nil || pair.Size(p) != 257 {
			t.Errorf("P17.1: 256 states of 16384 symbols: %v, %v", ok, err)
		}
		noPairing(t, "256 states, the budget 256", rules(254, one), nil, a, list(256), nil)
		noPairing(t, "257 states of 16384 symbols", rules(255, one), nil, a, list(0, most), nil)
		noPairing(t, "the letters of 256 sets", rules(256, all), nil, a, list(0, most), nil)
		noPairing(t, "the letters of 257 sets", rules(257, all), nil, a, list(0, most), api.ErrMany)
	}
}

// singles are so many entries of one point each.
func singles(n int) [][]int {
	var entries [][]int
	for i := range n {
		entries = append(entries, list(0x1000+i))
	}
	return entries
}

// Right tells all entries in each of its states: 1025 in 1023 are one number less than MaxOuts, with the rule's own as many.
func TestP17_1_MaxOuts(t *testing.T) {
	entries := singles(1025)
	rules := func(count int) api.Rules {
		var l []api.Rule
		for i := range count {
			l = append(l, sided(fmt.Sprint("R", i), row(1021, set(point('a'))), false, true))
		}
		return api.Rules{Rules: l}
	}
	w := worldWith(t, rules(1), entries)
	p := made(t, w)
	outs := 0
	for _, out := range p.Right.Out {
		outs += len(out)
	}
	if outs != api.MaxOuts {
		t.Errorf("P17.1: %d numbers in Outs, want %d", outs, api.MaxOuts)
	}
	noPairing(t, "a number in Outs too many", rules(2), entries, w.a, list(0, most), nil)
	// as it is built: 2000 entries in each of 2098 states are more than MaxCells
	r := api.Rules{Rules: []api.Rule{sided("A", row(2096, set(point('a'))), false, true)}}
	w = worldWith(t, r, singles(2000))
	noPairing(t, "the Outs of a machine as it is built", r, w.entries, w.a, list(0, most), nil)
}

// The greatest entries that may be: no refusal.
func TestP17_1_GreatEntries(t *testing.T) {
	d := newDrawn(171)
	var entries [][]int
	for range api.MaxEntries {
		entry := make([]int, api.MaxEntry)
		for i := range entry {
			entry[i] = 'a' + d.Intn(26)
		}
		entries = append(entries, entry)
	}
	w := worldWith(t, api.Rules{}, entries)
	noPairing(t, "2000 entries of 32 points", w.r, entries, w.a, list(most), nil)
	noPairing(t, "one of them twice", w.r, append(entries[:1999:1999], entries[0]), w.a, list(most), api.ErrTwice)
	if all := merge.Patterns(w.r, entries); len(all) != 64000 || all[63999] != [3]int{-1, 1999, 32} {
		t.Errorf("P17.2: %d patterns", len(all))
	}
	w = worldWith(t, api.Rules{Else: true}, singles(2000))
	if p := made(t, w); len(p.Breaks) != 2000 || pair.Size(p) != 2002 {
		t.Errorf("P17.1: 2000 entries: %d rules, %d states", len(p.Breaks), pair.Size(p))
	}
}

// spoil makes rules or entries such as may not be, or so great that there is no pairing.
func (d drawn) spoil(w *world) {
	w.r.Rules, w.entries = slices.Clone(w.r.Rules), slices.Clone(w.entries)
	at := d.Intn(len(w.entries) + 1)
	switch d.Intn(10) {
	case 0:
		w.entries = slices.Insert(w.entries, at, list())
	case 1:
		w.entries = slices.Insert(w.entries, at, list('a', -1))
	case 2:
		w.entries = slices.Insert(w.entries, at, slices.Repeat(list('a'), 33))
	case 3:
		w.entries = slices.Insert(w.entries, at, list('a'), list('a'))
	case 4:
		w.entries = slices.Insert(w.entries, at, list('q', 'a'))
	case 5:
		w.r.Suppress += d.Intn(3) - 1
	case 6:
		w.r.Trail = api.Set{Names: []string{"Zed"}}
	case 7:
		w.r.Rules = append(w.r.Rules, sided("Much", much(set(api.Set{Not: true})), d.Intn(2) == 0, false))
	case 8:
		w.r.Rules = append(w.r.Rules, sided("Gone", set(point('q')), d.Intn(2) == 0, false))
	case 9:
		w.r.Rules = append(w.r.Rules, far("Far", 14, d.Intn(2) == 0))
	}
}

func TestP17_1_Samples(t *testing.T) {
	d := newDrawn(1711)
	told, great, fine := map[error]int{}, 0, 0
	for range 700 {
		r, _, err := rules.Parse(d.rules())
		if err != nil {
			t.Fatal(err)
		}
		w := world{r: r, entries: entriesOf(d.entries()...)}
		w.a = alphabetOf(t, append(alphabet.Sets(r, w.entries), point('a'), api.Set{Not: true}))
		for range 1 + d.Intn(3) {
			d.spoil(&w)
		}
		want := toldBy(w.r, w.entries, w.a)
		told[want]++
		if want != nil {
			noPairing(t, brief(w.r), w.r, w.entries, w.a, list(0, 20, most), want)
			continue
		}
		p, wanted := pair.Of(w.r, w.entries, w.a, most)
		q, ok, err := merge.Of(w.r, w.entries, w.a, most)
		if ok != (wanted == nil) || err != nil || !same(p, q) {
			t.Errorf("P17.1: Of(%s, %v): %v, %v, want %v", brief(w.r), w.entries, ok, err, wanted == nil)
		}
		if ok {
			fine++
		} else {
			great++
		}
	}
	for _, err := range []error{nil, api.ErrArg, api.ErrMany, api.ErrTwice, api.ErrLost} {
		if told[err] < 20 {
			t.Errorf("%v: %d samples", err, told[err])
		}
	}
	if great < 10 || fine < 10 {
		t.Errorf("%d samples too great, %d fine", great, fine)
	}
}
