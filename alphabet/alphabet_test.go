package alphabet_test

import (
	"fmt"
	"math"
	"math/rand"
	"slices"
	"strings"
	"testing"

	"caesura/alphabet"
	"caesura/api"
	"caesura/expr"
	"caesura/units"
)

// single is so many sets of one point each, none the same.
func single(n int) []api.Set {
	var l []api.Set
	for i := range n {
		l = append(l, points(2*i, 2*i))
	}
	return l
}

// digits are the sets of so many bits: the points from 0 to below most lie in those that their number names.
func digits(bits, most int) []api.Set {
	l := make([]api.Set, bits)
	for k := range l {
		for low := 1 << k; low < most; low += 2 << k {
			l[k].Points = append(l[k].Points, api.Range{Low: low, High: min(low+1<<k, most) - 1})
		}
	}
	return l
}

// spans are made of three numbers each.
func spans(n ...int) []api.Span {
	var l []api.Span
	for i := 0; i < len(n); i += 3 {
		l = append(l, api.Span{Low: n[i], High: n[i+1], Name: n[i+2]})
	}
	return l
}

// comb is the set of so many ranges of one point.
func comb(n int) api.Set {
	var s api.Set
	for i := range n {
		s.Points = append(s.Points, api.Range{Low: 2 * i, High: 2 * i})
	}
	return s
}

// crowd is the set of so many names.
func crowd(n int) api.Set {
	var s api.Set
	for i := range n {
		s.Names = append(s.Names, fmt.Sprintf("N%06d", i))
	}
	return s
}

func TestP10_1_SetsThatMayNotBe(t *testing.T) {
	const low, high = math.MinInt, math.MaxInt
	var wrong []api.Set
	for _, s := range sets(names("B", "A"), names("A", "A"), names("A", "C", "B"), names("A", "B", "B"), names(""), names("1"), names("_"), names("A", ""), names("A", "b c"), names("A-"), names("\xc3\xa9"), names("A\x00"), names(strings.Repeat("n", 33)), names("Other", "Other"), names("Zed", "Other"), names("a", "B")) {
		wrong = append(wrong, s, not(s), both(s, points(7, 7)))
	}
	for _, s := range sets(points(5, 4), points(1, 2, 3, 4), points(1, 2, 2, 4), points(1, 9, 3, 4), points(3, 4, 1, 1), points(3, 4, 3, 4), points(0, top+1), points(-1, 4), points(-1, -1), points(top+1, top+1), points(low, high), points(high, low), points(0, high), points(low, 0), points(high, high), points(1, 2, low, high), points(1, 2, 4, 3), points(1, 1, 3, 3, 5, 5, 6, 6)) {
		wrong = append(wrong, s, not(s), both(names("A"), s))
	}
	fine := sets(names("A"), points('b', 'b'), names("Zed"))
	for _, s := range wrong {
		refused(t, chapter(), sets(s), api.ErrArg)
		for place := range len(fine) + 1 {
			refused(t, chapter(), slices.Insert(slices.Clone(fine), place, s), api.ErrArg)
		}
	}
}

func TestP10_1_EveryByteOfAName(t *testing.T) {
	isLetter := func(b int) bool { return 'A' <= b && b <= 'Z' || 'a' <= b && b <= 'z' }
	for b := range 256 {
		first := string([]byte{byte(b)})
		if isLetter(b) {
			made(t, chapter(), sets(names(first)))
		} else {
			refused(t, chapter(), sets(names(first)), api.ErrArg)
		}
		if isLetter(b) || '0' <= b && b <= '9' || b == '_' {
			made(t, chapter(), sets(names("x"+first)))
		} else {
			refused(t, chapter(), sets(names("x"+first)), api.ErrArg)
		}
	}
}

func TestP10_1_SetsThatMayBe(t *testing.T) {
	for _, s := range sets(
		api.Set{}, not(api.Set{}), api.Set{Names: []string{}, Points: []api.Range{}}, names("A"), names("A", "B"), names("A", "AA", "a"), names("Other"), names(strings.Repeat("n", 32)), names("x_9", "y"),
		points(0, 0), points(top, top), points(0, top), points(1, 2, 4, 4), points(0, 0, 2, 2, 4, top), points(0xd800, 0xdfff), points(0xd7ff, 0xe000), points(0xd800, 0xd800, 0xdfff, 0xe000),
	) {
		for _, one := range sets(s, not(s), both(s, points(7, 7)), both(names("A"), s)) {
			against(t, chapter(), sets(one), false)
		}
	}
}

// A set has no limit of its own: only an expression has.
func TestP10_1_GreatSets(t *testing.T) {
	for _, n := range []int{65535, 65536, 65537, 200000} {
		great := comb(n)
		a := made(t, chapter(), sets(great))
		if spans, _ := a.Tables(); a.Symbols() != 2 || len(spans) < n {
			t.Errorf("P10.1: a set of %d ranges: %d symbols, %d spans", n, a.Symbols(), len(spans))
		}
		great.Points = append(great.Points, great.Points[n-1])
		refused(t, chapter(), sets(great), api.ErrArg)

		crowded := crowd(n)
		crowded.Names = append([]string{"A"}, crowded.Names...)
		against(t, chapter(), sets(crowded, not(crowded)), false)
		crowded.Names = append(crowded.Names, "A")
		refused(t, chapter(), sets(crowded), api.ErrArg)
		crowded.Names[n+1] = "Z "
		refused(t, chapter(), sets(crowded), api.ErrArg)
	}
}

func TestP10_1_MaxSets(t *testing.T) {
	most := single(4096)
	if a := made(t, chapter(), most); a.Symbols() != 4097 {
		t.Errorf("P10.1: 4096 sets: %d symbols, want 4097", a.Symbols())
	}
	for _, more := range sets(points(1, 1), api.Set{}, not(api.Set{}), names("A"), not(points(0, 0)), points(0, 1), both(names("A"), points(0, 0))) {
		refused(t, chapter(), append(slices.Clone(most), more), api.ErrMany)
		refused(t, chapter(), append(sets(more), most...), api.ErrMany)
	}
	// What stands there twice counts once; empty lists are like none.
	again := slices.Concat(most, most, sets(api.Set{Names: []string{}, Points: most[0].Points}))
	if a := made(t, chapter(), again); a.Symbols() != 4097 {
		t.Errorf("P10.1: 4096 different sets: %d symbols, want 4097", a.Symbols())
	}
	refused(t, chapter(), append(slices.Clone(again), points(1, 1)), api.ErrMany)
	// A set that may not be is told ahead of too many, wherever it stands.
	for _, place := range []int{0, 2000, 4096, 5000} {
		refused(t, chapter(), slices.Insert(single(5000), place, points(5, 4)), api.ErrArg)
		refused(t, chapter(), slices.Insert(single(5000), place, names("B", "A")), api.ErrArg)
	}
}

func TestP10_1_MaxSymbols(t *testing.T) {
	full := digits(14, 16384)
	if a := made(t, chapter(), full); a.Symbols() != 16384 {
		t.Errorf("P10.1: %d symbols, want 16384", a.Symbols())
	}
	refused(t, chapter(), append(slices.Clone(full), points(16384, 16384)), api.ErrMany)
	refused(t, chapter(), append(slices.Clone(full), points(top, top)), api.ErrMany)
	far := api.Property{Names: []string{"A"}, Spans: []api.Span{{Low: 0x20000, High: 0x20007}}}
	refused(t, far, append(slices.Clone(full), names("A")), api.ErrMany)
	refused(t, chapter(), digits(15, 32768), api.ErrMany)
	refused(t, chapter(), digits(20, top+1), api.ErrMany)
	// What no unit has does not count.
	for _, none := range sets(names("Zed"), points(0xd800, 0xdfff), not(api.Set{}), api.Set{}, names("A")) {
		if a := made(t, chapter(), append(slices.Clone(full), none)); a.Symbols() != 16384 {
			t.Errorf("P10.1: %d symbols, want 16384", a.Symbols())
		}
	}
	// The bad unit's symbol counts too.
	refused(t, chapter(), append(slices.Clone(full), points(0, top)), api.ErrMany)
	a := made(t, chapter(), append(digits(14, 16383), points(0, top)))
	if _, stray := a.Tables(); a.Symbols() != 16384 || stray != 16383 {
		t.Errorf("P10.1: %d symbols, the bad unit's %d, want 16384, 16383", a.Symbols(), stray)
	}
	// A set that may not be is told ahead of too many symbols.
	refused(t, chapter(), append(digits(15, 32768), points(5, 4)), api.ErrArg)
}

func TestP10_1_NoSets(t *testing.T) {
	for _, l := range [][]api.Set{nil, {}} {
		a := made(t, chapter(), l)
		spans, stray := a.Tables()
		if a.Symbols() != 1 || stray != 0 || !slices.Equal(spans, []api.Span{{Low: 0, High: 0xd7ff}, {Low: 0xe000, High: top}}) {
			t.Errorf("P10.1: no sets: %d symbols, %v, %d", a.Symbols(), spans, stray)
		}
		if l, err := a.Letters(api.Set{}); len(l) != 0 || err != api.ErrLost {
			t.Errorf("P10.4: Letters without sets = %v, %v", l, err)
		}
	}
}

func TestP10_3_P10_5_Examples(t *testing.T) {
	const last, first = 0xd7ff, 0xe000
	for _, c := range []struct {
		l       []api.Set
		symbols int
		spans   []api.Span
		stray   int
	}{
		{nil, 1, spans(0, last, 0, first, top, 0), 0},
		{sets(names("A")), 2, spans(0, 0x60, 0, 'a', 'c', 1, 'd', last, 0, first, top, 0), 0},
		{sets(names("A"), names("B"), not(names("A"))), 3, spans(0, 0x60, 0, 'a', 'c', 1, 'd', 'w', 0, 'x', 'x', 2, 'y', last, 0, first, top, 0), 0},
		{sets(names("A"), points('b', 'b')), 3, spans(0, 0x60, 0, 'a', 'a', 1, 'b', 'b', 2, 'c', 'c', 1, 'd', last, 0, first, top, 0), 0},
		{sets(not(names("Other"))), 2, spans(0, 0x60, 0, 'a', 'c', 1, 'd', 'w', 0, 'x', 'x', 1, 'y', last, 0, first, top, 0), 0},
		{sets(points(0, top)), 2, spans(0, last, 0, first, top, 0), 1},
		{sets(points(0xd800, 0xdfff)), 1, spans(0, last, 0, first, top, 0), 0},
		{sets(names("Zed")), 1, spans(0, last, 0, first, top, 0), 0},
		// Points that no range of another symbol parts are one span, whatever their classes are.
		{sets(names("A", "Other")), 2, spans(0, 'w', 0, 'x', 'x', 1, 'y', last, 0, first, top, 0), 0},
		{sets(both(names("A"), points('d', 'w')), points('b', 'd')), 3, spans(0, 0x60, 0, 'a', 'a', 1, 'b', 'd', 2, 'e', 'w', 1, 'x', last, 0, first, top, 0), 0},
	} {
		a := made(t, chapter(), c.l)
		got, stray := a.Tables()
		if a.Symbols() != c.symbols || stray != c.stray || !slices.Equal(got, c.spans) {
			t.Errorf("P10.5: %v: %d; %v; %d, want %d; %v; %d", c.l, a.Symbols(), got, stray, c.symbols, c.spans, c.stray)
		}
		against(t, chapter(), c.l, true)
	}
}

func TestP10_3_NoCodePoint(t *testing.T) {
	for _, l := range [][]api.Set{nil, sets(points(0, top)), sets(names("Other")), sets(names("A"), points(0, 0xd7ff, 0xe000, top)), sets(not(points(0, top)))} {
		a := made(t, api.Property{Names: []string{"A"}, Spans: []api.Span{{Low: 0, High: top}}}, l)
		_, stray := a.Tables()
		for _, point := range []int{api.Bad, -2, -7, -97, math.MinInt, math.MinInt + 1, 0xd800, 0xd801, 0xdc00, 0xdfff, top + 1, top + 98, 1 << 31, 1 << 32, 1<<32 + 'a', 1 << 62, math.MaxInt} {
			if got := a.Of(api.Unit{Point: point, Start: 'a', End: 'b'}); got != stray {
				t.Errorf("P10.3: %v: Of(%X) = %d, want %d", l, point, got, stray)
			}
			if got := a.Word([]api.Unit{{Point: 'a'}, {Point: point}}); !slices.Equal(got, []int{0, stray}) {
				t.Errorf("P10.3: %v: Word of a and %X = %v, want 0 %d", l, point, got, stray)
			}
		}
	}
}

func TestP10_3_Word(t *testing.T) {
	a := made(t, chapter(), sets(names("A"), names("B"), points('b', 'b'), points(0, top)))
	for _, none := range [][]api.Unit{nil, {}} {
		if got := a.Word(none); len(got) != 0 {
			t.Errorf("P10.3: Word of no units = %v", got)
		}
	}
	if got := a.Word(units.Split("zabcx\xff a\xed\xa0\x80b")); !slices.Equal(got, []int{0, 1, 2, 1, 3, 4, 0, 1, 4, 4, 4, 2}) {
		t.Errorf("P10.3: Word = %v", got)
	}
}

func TestP10_4_Letters(t *testing.T) {
	list := sets(names("A"), not(names("B")), points('b', 'b'), names("Zed"), not(names("Zed")), names("Other"), points(0xd800, 0xdfff), both(names("A", "B"), points('b', 'b', 'z', 'z')), points(0, top))
	a := made(t, chapter(), list)
	// 0 others, 1 a and c, 2 b, 3 x, 4 z, 5 the bad unit
	for i, want := range [][]int{{1, 2}, {0, 1, 2, 4, 5}, {2}, nil, {0, 1, 2, 3, 4, 5}, {0, 4, 5}, nil, {1, 2, 3, 4}, {0, 1, 2, 3, 4}} {
		if got, err := a.Letters(list[i]); err != nil || !slices.Equal(got, want) {
			t.Errorf("P10.4: Letters(%v) = %v, %v, want %v", list[i], got, err, want)
		}
	}
	// Empty lists are like none.
	if got, err := a.Letters(api.Set{Names: []string{"A"}, Points: []api.Range{}}); err != nil || !slices.Equal(got, []int{1, 2}) {
		t.Errorf("P10.4: Letters(A, no points) = %v, %v", got, err)
	}
	if got, err := a.Letters(api.Set{Names: []string{}, Points: []api.Range{{Low: 'b', High: 'b'}}}); err != nil || !slices.Equal(got, []int{2}) {
		t.Errorf("P10.4: Letters(no names, b) = %v, %v", got, err)
	}
}

func TestP10_4_Lost(t *testing.T) {
	list := sets(names("A", "B"), not(names("B")), points('b', 'b', 'd', 'e'), both(names("C"), points(1, 2)))
	a := made(t, chapter(), list)
	for _, s := range sets(
		api.Set{}, not(api.Set{}), names("A"), names("B"), names("AB"), names("B", "A"), names("A", "B", "C"), names("A", "B", ""), names("A\x00B"), names("A\x01B"), names(""), not(names("A", "B")), not(names("B", "B")),
		points('b', 'b'), points('d', 'e'), points('b', 'b', 'd', 'd'), points('b', 'b', 'd', 'd', 'e', 'e'), points('d', 'e', 'b', 'b'), points('b', 'e'), not(points('b', 'b', 'd', 'e')), points(5, 4), points(-1, math.MaxInt), points(math.MinInt, top+1),
		both(names("B"), points('b', 'b', 'd', 'e')), names("C"), points(1, 2), both(names("C"), points(1, 1)), both(names("C"), points(1, 2, 1, 2)), comb(70000), crowd(70000),
	) {
		if got, err := a.Letters(s); len(got) != 0 || err != api.ErrLost {
			t.Errorf("P10.4: Letters(%s) = %v, %v, want none, ErrLost", brief(s), got, err)
		}
	}
	// The same by its points and its classes is not the same set.
	if got, err := made(t, chapter(), sets(names("A"))).Letters(points('a', 'c')); len(got) != 0 || err != api.ErrLost {
		t.Errorf("P10.4: Letters(a to c) = %v, %v, want none, ErrLost", got, err)
	}
}

func TestP10_5_AroundTheGap(t *testing.T) {
	ends := []int{0xd7fe, 0xd7ff, 0xd800, 0xd801, 0xdffe, 0xdfff, 0xe000, 0xe001}
	for i, low := range ends {
		for _, high := range ends[i:] {
			p := api.Property{Names: []string{"A"}, Spans: []api.Span{{Low: low, High: high}}}
			against(t, chapter(), sets(points(low, high)), false)
			against(t, p, sets(names("A")), false)
			against(t, p, sets(names("A"), not(points(low, high)), points(0xd700, 0xe100)), false)
		}
	}
}

func TestP10_5_AtTheEnds(t *testing.T) {
	for _, r := range [][2]int{{0, 0}, {0, 1}, {1, 1}, {top, top}, {top - 1, top}, {top - 1, top - 1}, {0, top}, {1, top}, {0, top - 1}} {
		p := api.Property{Names: []string{"A"}, Spans: []api.Span{{Low: r[0], High: r[1]}}}
		against(t, chapter(), sets(points(r[0], r[1])), false)
		against(t, p, sets(names("A")), false)
		against(t, p, sets(not(names("A")), points(r[0], r[1])), false)
		against(t, p, sets(names("Other")), false)
	}
}

func TestP10_3_ToP10_6_Samples(t *testing.T) {
	random := rand.New(rand.NewSource(10))
	for range 800 {
		p := someClasses(random)
		against(t, p, someSets(random, p), false)
	}
	for range 3 {
		p := someClasses(random)
		against(t, p, someSets(random, p), true)
	}
}

// Sets beyond the first 64 count as much as those, and so do the last ones.
func TestP10_6_ManySets(t *testing.T) {
	for _, n := range []int{63, 64, 65, 127, 128, 129, 1000} {
		list := single(n)
		list[n-1] = not(both(names("B"), list[n-1]))
		against(t, chapter(), list, false)
	}
	list := single(4096)
	a := made(t, chapter(), list)
	for i, s := range list {
		want := a.Of(api.Unit{Point: 2 * i})
		if got, err := a.Letters(s); err != nil || !slices.Equal(got, []int{want}) {
			t.Fatalf("P10.6: set number %d of 4096: Letters = %v, %v, want %d", i, got, err, want)
		}
	}
}

func TestP10_6_ManyClasses(t *testing.T) {
	var p api.Property
	var list []api.Set
	for i := range 62 {
		name := fmt.Sprintf("C%02d", i)
		p.Names = append(p.Names, name)
		p.Spans = append(p.Spans, api.Span{Low: 10 * i, High: 10*i + 9, Name: i})
		list = append(list, names(name))
	}
	against(t, p, list, false)
	list = append(list, names(p.Names...), names("Other"), not(names(p.Names[20:40]...)))
	against(t, p, list, false)
}

func TestP10_6_OneSymbol(t *testing.T) {
	random := rand.New(rand.NewSource(106))
	for range 100 {
		p := someClasses(random)
		list := someSets(random, p)
		a, classes := made(t, p, list), table(t, p)
		kinds := []api.Kind{{Class: api.Other, Point: api.Bad}}
		for _, point := range cuts(p, list) {
			kinds = append(kinds, api.Kind{Class: classes.Names()[classes.Class(point)], Point: point})
		}
		for _, one := range kinds {
			symbol := a.Of(api.Unit{Point: one.Point})
			for _, s := range list {
				l, err := a.Letters(s)
				if in := slices.Contains(l, symbol); err != nil || in != expr.Holds(s, one) {
					t.Fatalf("P10.6: %v: Letters(%v) = %v, %v: %v of the symbol %d", list, s, l, err, one, symbol)
				}
			}
			for _, other := range kinds {
				alike := !slices.ContainsFunc(list, func(s api.Set) bool { return expr.Holds(s, one) != expr.Holds(s, other) })
				if alike != (symbol == a.Of(api.Unit{Point: other.Point})) {
					t.Fatalf("P10.6: %v: %v and %v: alike %v", list, one, other, alike)
				}
			}
		}
	}
}

func TestP10_6_OrderOfSets(t *testing.T) {
	random := rand.New(rand.NewSource(160))
	for range 100 {
		p := someClasses(random)
		list := append(someSets(random, p), names("Other"))
		a := made(t, p, list)
		spans, stray := a.Tables()
		other := slices.Concat(list, list[:random.Intn(len(list))])
		random.Shuffle(len(other), func(i, k int) { other[i], other[k] = other[k], other[i] })
		b := made(t, p, other)
		if got, bad := b.Tables(); a.Symbols() != b.Symbols() || stray != bad || !slices.Equal(spans, got) {
			t.Fatalf("P10.6: %v and %v: %v, %d and %v, %d", list, other, spans, stray, got, bad)
		}
		for _, s := range list {
			one, _ := a.Letters(s)
			if two, err := b.Letters(s); err != nil || !slices.Equal(one, two) {
				t.Fatalf("P10.6: Letters(%v) = %v and %v, %v", s, one, two, err)
			}
		}
	}
}

// What is handed in is not kept and not changed, and answers are new memory.
func TestP0_5_Memory(t *testing.T) {
	room := make([]api.Set, 3, 9)
	room[0], room[1], room[2] = names("A", "B"), points('b', 'b', 'd', 'd'), names("B")
	room[0].Names = append(make([]string, 0, 8), room[0].Names...)
	room[1].Points = append(make([]api.Range, 0, 8), room[1].Points...)
	handed := func() string { return fmt.Sprint(room[:cap(room)], room[0].Names[:8], room[1].Points[:8]) }
	before := handed()
	a := made(t, chapter(), room)
	shown := func() string {
		spans, stray := a.Tables()
		first, _ := a.Letters(names("A", "B"))
		second, _ := a.Letters(points('b', 'b', 'd', 'd'))
		return fmt.Sprint(a.Symbols(), spans, stray, first, second, a.Word([]api.Unit{{Point: 'a'}, {Point: 'b'}, {Point: -1}}))
	}
	a.Letters(room[1])
	if now := handed(); now != before {
		t.Errorf("P0.5: New or Letters has changed what it was handed: %s, before %s", now, before)
	}
	want := shown()
	room[0].Names[0], room[1].Points[0].High, room[2] = "Z", 'c', names("Z")
	if got := shown(); got != want {
		t.Errorf("P0.5: New has kept what it was handed: %s, before %s", got, want)
	}
	spans, _ := a.Tables()
	letters, _ := a.Letters(names("A", "B"))
	word := a.Word([]api.Unit{{Point: 'a'}})
	for i := range spans[:cap(spans)] {
		spans[:cap(spans)][i] = api.Span{Low: 9, High: 9, Name: 9}
	}
	for i := range letters[:cap(letters)] {
		letters[:cap(letters)][i] = 77
	}
	word[0] = 55
	if got := shown(); got != want {
		t.Errorf("P0.5: what was answered is not new memory: %s, before %s", got, want)
	}
	list := append(make([]api.Unit, 0, 5), api.Unit{Point: 'a', Start: 1, End: 2})
	a.Word(list)
	if got := fmt.Sprint(list[:3]); got != "[{97 1 2} {0 0 0} {0 0 0}]" {
		t.Errorf("P0.5: Word has changed what it was handed: %s", got)
	}
}

// The alphabet of rules knows all sets that their sides have.
func TestP10_2_P10_4_RulesAndTheirAlphabet(t *testing.T) {
	r := api.Rules{Suppress: 0, Trail: names("B"), Rules: []api.Rule{{Left: expr.Word([]int{'a', 'x'}), Right: of(names("A"))}}}
	a := made(t, chapter(), alphabet.Sets(r, [][]int{{'q', 'b'}}))
	for _, s := range sets(names("A"), names("B"), points('a', 'a'), points('x', 'x'), points('q', 'q'), points('b', 'b')) {
		if l, err := a.Letters(s); err != nil || len(l) == 0 {
			t.Errorf("P10.4: Letters(%v) = %v, %v", s, l, err)
		}
	}
	if got := a.Symbols(); got != 6 { // others, a, b, c, q, x
		t.Errorf("P10.3: Symbols() = %d, want 6", got)
	}
}
