package pair_test

import (
	"math"
	"slices"
	"testing"

	"caesura/alphabet"
	"caesura/api"
	"caesura/minimal"
	"caesura/pair"
	"caesura/rules"
)

const (
	example = "suppress Sp\nA: ATerm Sp* >< Lower\nB: ATerm >< Sp\nC: ATerm Sp+ >< Sp\nD: ATerm Sp* <>\nelse ><"
	most    = 2 * api.MaxStates
)

func made(t *testing.T, w world) api.Pairing {
	t.Helper()
	p, err := pair.Of(w.r, w.entries, w.a, most)
	if err != nil {
		t.Fatalf("P14.1: Of(%s, %v): %v", brief(w.r), w.entries, err)
	}
	return p
}

func decides(t *testing.T, p api.Pairing, word, want []int) {
	t.Helper()
	if got, err := pair.Decide(p, word); err != nil || !slices.Equal(got, want) {
		t.Errorf("P14.4: Decide(%v) = %v, %v, want %v", word, got, err, want)
	}
}

func breaks(t *testing.T, promise string, p api.Pairing, word, want []int) {
	t.Helper()
	if got, err := pair.Breaks(p, word); err != nil || !slices.Equal(got, want) {
		t.Errorf("%s: Breaks(%v) = %v, %v, want %v", promise, word, got, err, want)
	}
}

func refused(t *testing.T, what string, r api.Rules, entries [][]int, a *alphabet.Alphabet, most int, want error) {
	t.Helper()
	p, err := pair.Of(r, entries, a, most)
	if err != want || !same(p, api.Pairing{}) {
		t.Errorf("P14.1: %s: %s, %v, want no pairing, %v", what, brief(p), err, want)
	}
}

func TestP14_1_Examples(t *testing.T) {
	w := worldOf(t, example)
	p := made(t, w)
	if !slices.Equal(p.Breaks, []bool{false, false, false, true}) || p.Else {
		t.Errorf("P14.1: Breaks %v, Else %v", p.Breaks, p.Else)
	}
	decides(t, p, w.word("Hi. Ok"), list(-1, -1, 1, 3, -1))
	breaks(t, "P14.5", p, w.word("Hi. Ok"), list(0, 4, 6))
	breaks(t, "P14.5", p, w.word("Hi. ok"), list(0, 6))
	decides(t, p, w.word("H"), nil)
	decides(t, p, nil, nil)
	breaks(t, "P14.5", p, nil, nil)
	breaks(t, "P14.5", p, w.word("H"), list(0, 1))
	refused(t, "most 1", w.r, nil, w.a, 1, api.ErrMany)

	w = worldOf(t, example, "Hi.")
	p = made(t, w)
	if !slices.Equal(p.Breaks, []bool{false, false, false, false, false, false, true}) {
		t.Errorf("P14.1: Breaks %v", p.Breaks)
	}
	decides(t, p, w.word("Hi. Ok"), list(0, 1, 2, 2, -1))
	decides(t, p, w.word("Ho. Ok"), list(-1, -1, 4, 6, -1))
	breaks(t, "P14.5", p, w.word("Hi. Ok"), list(0, 6))

	if err := pair.Check(api.Pairing{}, 3); err != api.ErrArg {
		t.Errorf("P14.2: the zero pairing: %v", err)
	}
	if got, err := pair.Decide(api.Pairing{}, nil); err != api.ErrArg || len(got) != 0 {
		t.Errorf("P14.4: the zero pairing: %v, %v", got, err)
	}
	if n := pair.Size(api.Pairing{}); n != 0 {
		t.Errorf("P14.3: the zero pairing: %d", n)
	}
}

// The entries' rules stand where Suppress says, in the order in which the entries were handed in.
func TestP14_1_Numbers(t *testing.T) {
	for _, c := range []struct {
		text    string
		entries []string
		word    string
		numbers []int
		breaks  []bool
	}{
		{"suppress\nA: <>\nelse ><", []string{"ab"}, "abc", list(0, 1), []bool{false, false, true}},
		{"A: <> 'c'\nsuppress\nelse ><", []string{"ab"}, "abc", list(1, 0), []bool{true, false, false}},
		{"A: 'x' <>\nB: 'y' <>\nsuppress ' '\nC: <>\nelse <>", []string{"ab", "c"}, "abc x y abz", list(2, 3, 4, 4, 0, 5, 1, 5, 2, 3), []bool{true, true, false, false, false, true}},
		{"suppress\nelse <>", []string{"b", "abc"}, "abc", list(1, 0), []bool{false, false, false, false}},
		{"suppress\nelse <>", []string{"abc", "b"}, "abc", list(0, 1), []bool{false, false, false, false}},
		{"suppress\nelse <>", nil, "abc", list(-1, -1), nil},
		{"A: ><\nelse <>", []string{"abc"}, "abc", list(0, 0), []bool{false}},
		{"else <>", []string{"abc"}, "abc", list(-1, -1), nil},
		{"suppress [^]\nelse <>", []string{"a", "b"}, "xab\xffc", list(-1, 0, 0, 0), []bool{false, false}},
	} {
		w := worldOf(t, c.text, c.entries...)
		p := made(t, w)
		if !slices.Equal(p.Breaks, c.breaks) || p.Else != w.r.Else {
			t.Errorf("P14.1: %q, %q: Breaks %v, want %v", c.text, c.entries, p.Breaks, c.breaks)
		}
		decides(t, p, w.word(c.word), c.numbers)
	}
}

// Start and End: the whole word counts.
func TestP14_6_Ends(t *testing.T) {
	for _, c := range []struct {
		text, word string
		numbers    []int
	}{
		{"A: ^ 'a' <>\nelse ><", "aaa", list(0, -1)}, {"A: <> 'a' $\nelse ><", "aaa", list(-1, 0)}, {"A: ^ 'a'* <> 'b' $\nelse ><", "aabb", list(-1, -1, -1)}, {"A: ^ 'a'* <> 'b' $\nelse ><", "aaab", list(-1, -1, 0)},
		{"A: ^ <>\nelse ><", "aa", list(-1)}, {"A: <> $\nelse ><", "aa", list(-1)}, {"A: ^ 'a' 'b' <> 'c' 'd' $\nelse ><", "abcd", list(-1, 0, -1)}, {"A: 'a' 'b' <> 'c' 'd'\nelse ><", "xabcdx", list(-1, -1, 0, -1, -1)},
	} {
		w := worldOf(t, c.text)
		decides(t, made(t, w), w.word(c.word), c.numbers)
	}
}

func TestP14_1_Order(t *testing.T) {
	w := worldOf(t, example, "Hi.")
	bare := worldOf(t, example)
	twice := append(slices.Clone(w.r.Rules), w.r.Rules[0])
	with := func(list []api.Rule, suppress int) api.Rules {
		return api.Rules{Rules: list, Suppress: suppress, Trail: w.r.Trail}
	}
	long := slices.Repeat(list('H'), api.MaxEntry+1)
	many := make([][]int, api.MaxEntries+1)
	for i := range many {
		many[i] = list(i)
	}
	for _, c := range []struct {
		what    string
		r       api.Rules
		entries [][]int
		a       *alphabet.Alphabet
		want    error
	}{
		{"a rule twice", with(twice, 0), lists(nil), w.a, api.ErrTwice},
		{"a name that is none", with([]api.Rule{{Name: "9"}}, 0), lists(nil), w.a, api.ErrText},
		{"a side that may not be", with([]api.Rule{{Name: "A"}}, 0), lists(long), w.a, api.ErrArg},
		{"Suppress -2", with(w.r.Rules, -2), many, w.a, api.ErrArg},
		{"Suppress 5", with(w.r.Rules, 5), many, w.a, api.ErrArg},
		{"a Trail without Suppress", with(w.r.Rules, -1), many, w.a, api.ErrArg},
		{"more rules than may be", with(slices.Repeat(w.r.Rules, 17), 0), lists(nil), w.a, api.ErrMany},
		{"too many entries", w.r, append(many, nil), w.a, api.ErrMany},
		{"too many, the first of them wrong", w.r, append(lists(nil), many...), w.a, api.ErrMany},
		{"no point", w.r, lists(list('H'), nil), w.a, api.ErrArg},
		{"an empty list", w.r, lists(list()), w.a, api.ErrArg},
		{"too many points", w.r, lists(long), w.a, api.ErrMany},
		{"too many points, the last of them wrong", w.r, lists(append(slices.Clone(long), -1)), w.a, api.ErrArg},
		{"twice", w.r, lists(list('H'), list('i'), list('H')), w.a, api.ErrTwice},
		{"too long, twice", w.r, lists(long, long), w.a, api.ErrMany},
		{"wrong ahead of twice", w.r, lists(list('H'), nil, list('H')), w.a, api.ErrArg},
		{"twice ahead of wrong", w.r, lists(list('H'), list('H'), nil), w.a, api.ErrTwice},
		{"too long ahead of wrong", w.r, lists(list('H'), long, nil), w.a, api.ErrMany},
		{"entries ahead of a point that is lost", bare.r, lists(list('H'), list('H')), bare.a, api.ErrTwice},
		{"a point that is lost", bare.r, lists(list('H')), bare.a, api.ErrLost},
		{"the last point that is lost", w.r, lists(list('H', 'i', 'x')), w.a, api.ErrLost},
		{"a Trail that is lost", api.Rules{Trail: api.Set{Names: []string{"Zed"}}}, lists(list('H', 'i')), w.a, api.ErrLost},
		{"a Trail of nothing that is lost", api.Rules{}, lists(list('H')), w.a, api.ErrLost},
	} {
		refused(t, c.what, c.r, c.entries, c.a, most, c.want)
		refused(t, c.what, c.r, c.entries, c.a, -1, c.want)
	}
	for _, point := range []int{-1, math.MinInt, 0xD800, 0xDBFF, 0xDFFF, 0x110000, 1<<32 + 'H', math.MaxInt} {
		refused(t, "no scalar value", w.r, lists(list('H', point)), w.a, most, api.ErrArg)
		refused(t, "no scalar value", w.r, lists(list(point)), w.a, most, api.ErrArg)
	}
	// scalar values at the edges, all of one symbol, are no entry twice
	edges := lists(list(0), list(0xD7FF), list(0xE000), list(0x10FFFF), list(0, 0), list(0xFFFD), list(0x80), list(0xFFFF), list('H', 0x10FFFF))
	made(t, worldWith(t, w.r, edges))
}

// Rule by rule, the left and then the right side: what is lost, and what has too many places that follow one another.
func TestP14_1_OrderOfPlaces(t *testing.T) {
	known, lost := set(api.Set{Names: []string{"Sp"}}), set(api.Set{Names: []string{"Zed"}})
	much := node(api.ExprStar, node(api.ExprAlt, slices.Repeat([]api.Expr{known}, 1025)...))
	x, y := list('x'), list('y')
	a := alphabetOf(t, tableOf(t, classes), []api.Set{known.Set, {}, {Points: []api.Range{{Low: 'x', High: 'x'}}}})
	good := rule("G", known, known)
	for i, c := range []struct {
		list     []api.Rule
		suppress int
		trail    api.Set
		entries  [][]int
		want     error
	}{
		{[]api.Rule{good, rule("A", lost, much)}, -1, api.Set{}, nil, api.ErrLost},
		{[]api.Rule{good, rule("A", much, lost)}, -1, api.Set{}, nil, api.ErrMany},
		{[]api.Rule{rule("A", known, much), rule("B", lost, known)}, -1, api.Set{}, nil, api.ErrMany},
		{[]api.Rule{rule("A", known, lost), rule("B", much, known)}, -1, api.Set{}, nil, api.ErrLost},
		{[]api.Rule{good, rule("A", much, known)}, 0, api.Set{}, lists(y), api.ErrLost},
		{[]api.Rule{good, rule("A", much, known)}, 1, api.Set{}, lists(x, y), api.ErrLost},
		{[]api.Rule{good, rule("A", much, known)}, 2, api.Set{}, lists(y), api.ErrMany},
		{[]api.Rule{good, rule("A", known, lost)}, 2, ranging(65536), lists(x), api.ErrLost},
		{[]api.Rule{good, rule("A", known, lost)}, 1, ranging(65536), lists(x), api.ErrMany},
		// with no cut the Trail is counted ahead of the point, with one the point is asked for first
		{nil, 0, ranging(65536), lists(y), api.ErrMany},
		{nil, 0, ranging(65536), lists(list('x', 'y')), api.ErrLost},
		{nil, 0, ranging(65536), lists(list('y', 'x')), api.ErrLost},
		{nil, 0, ranging(65536), lists(list('x', 'x')), api.ErrMany},
		{nil, 0, ranging(65535), lists(x), api.ErrLost},
		{nil, 0, ranging(65535), lists(list('x', 'x')), api.ErrMany},
		{nil, 0, api.Set{}, lists(x, y), api.ErrLost},
		{nil, 0, api.Set{}, lists(x, list('x', 'x', 'y')), api.ErrLost},
	} {
		p, err := pair.Of(api.Rules{Rules: c.list, Suppress: c.suppress, Trail: c.trail}, c.entries, a, most)
		if err != c.want || !same(p, api.Pairing{}) {
			t.Errorf("P14.1: number %d: %s, %v, want %v", i, brief(p), err, c.want)
		}
	}
}

// With Suppress -1 entries are not looked at, whatever they are.
func TestP14_1_NoSuppress(t *testing.T) {
	w := worldOf(t, "A: ATerm <>\nelse ><")
	want := made(t, w)
	for _, entries := range [][][]int{nil, lists(nil), lists(list(-1)), lists(list('a'), list('a')), make([][]int, 2001), lists(make([]int, 40))} {
		if p, err := pair.Of(w.r, entries, w.a, most); err != nil || !same(p, want) {
			t.Errorf("P14.1: %s, %v", brief(p), err)
		}
	}
}

func TestP14_1_Most(t *testing.T) {
	w := worldOf(t, example, "Hi.", "z. B.")
	p := made(t, w)
	size := pair.Size(p)
	if size != len(p.Left.Next)+len(p.Right.Next) || size < 10 {
		t.Errorf("P14.3: Size is %d", size)
	}
	for _, most := range []int{size, size + 1, math.MaxInt} {
		if q, err := pair.Of(w.r, w.entries, w.a, most); err != nil || !same(p, q) {
			t.Errorf("P14.1: most %d: %v", most, err)
		}
	}
	for _, most := range []int{size - 1, 2, 1, 0, -1, math.MinInt} {
		refused(t, "most", w.r, w.entries, w.a, most, api.ErrMany)
	}
	// no rules: one state each
	none := worldOf(t, "else <>")
	if p, err := pair.Of(none.r, nil, none.a, 2); err != nil || pair.Size(p) != 2 || !p.Else {
		t.Errorf("P14.1: no rules: %v, %v", p, err)
	}
	refused(t, "no rules, most 1", none.r, nil, none.a, 1, api.ErrMany)
}

func TestP14_6_Samples(t *testing.T) {
	d := newDrawn(146)
	for range 700 {
		w := worldOf(t, d.rules(), d.entries()...)
		p := made(t, w)
		if want := w.expected(t); !same(p, want) {
			t.Fatalf("P14.1: Of(%s, %v) = %s, want %s", brief(w.r), w.entries, brief(p), brief(want))
		}
		symbols := w.a.Symbols()
		if !minimal.Is(p.Left, symbols) || !minimal.Is(p.Right, symbols) {
			t.Fatalf("P14.7: Of(%s, %v): not the least machines", brief(w.r), w.entries)
		}
		if err := pair.Check(p, symbols); err != nil {
			t.Fatalf("P14.2: Check of what Of made: %v", err)
		}
		all := w.numbered()
		for range 6 {
			text := d.anyText(9)
			word, kinds := w.word(text), w.kinds(text)
			decides(t, p, word, decided(all, kinds))
			breaks(t, "P14.6", p, word, rules.Breaks(w.r, w.entries, kinds))
			tells(t, w, p, all, text)
		}
		if t.Failed() {
			t.Fatalf("rules %s, entries %v", brief(w.r), w.entries)
		}
	}
}

// tells: each machine tells just the sides that fit, at the ends too.
func tells(t *testing.T, w world, p api.Pairing, all []api.Rule, text string) {
	t.Helper()
	word, kinds := w.word(text), w.kinds(text)
	for i := range len(word) + 1 {
		var left, right []int
		for number, rule := range all {
			if leftFits(rule, kinds, i) {
				left = append(left, number)
			}
			if rightFits(rule, kinds, i) {
				right = append(right, number)
			}
		}
		if got := told(p.Left, word[:i]); !slices.Equal(got, left) {
			t.Errorf("P14.7: Left tells %v at %d of %q, want %v", got, i, text, left)
		}
		if got := told(p.Right, turned(word[i:])); !slices.Equal(got, right) {
			t.Errorf("P14.7: Right tells %v at %d of %q, want %v", got, i, text, right)
		}
	}
}

func TestP14_7_OrderOfEntries(t *testing.T) {
	d := newDrawn(147)
	for range 300 {
		w := worldOf(t, d.rules(), d.entries()...)
		p := made(t, w)
		other := w
		other.entries = slices.Clone(w.entries)
		d.Shuffle(len(other.entries), func(i, j int) {
			other.entries[i], other.entries[j] = other.entries[j], other.entries[i]
		})
		q := made(t, other)
		if pair.Size(p) != pair.Size(q) {
			t.Errorf("P14.7: %d and %d states", pair.Size(p), pair.Size(q))
		}
		for range 5 {
			word := w.word(d.anyText(12))
			want, _ := pair.Breaks(p, word)
			breaks(t, "P14.7", q, word, want)
		}
	}
}

// Where rules ahead of the suppressions always decide, entries change nothing.
func TestP14_7_RulesAhead(t *testing.T) {
	d := newDrawn(1471)
	for _, text := range []string{"A: 'a' <>\nB: <> 'a'\nC: ><\nsuppress [^]\nelse <>", "A: <>\nsuppress\nelse ><", "A: Lower <>\nB: [^ Lower] ><\nsuppress Sp\nelse ><"} {
		r := parsed(t, text)
		for range 40 {
			w := worldWith(t, r, entriesOf(d.entries()...))
			p := made(t, w)
			alone, err := pair.Of(r, nil, w.a, most)
			if err != nil {
				t.Fatal(err)
			}
			for range 5 {
				word := w.word(d.anyText(12))
				want, _ := pair.Breaks(alone, word)
				breaks(t, "P14.7", p, word, want)
			}
		}
	}
}
