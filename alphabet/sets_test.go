package alphabet_test

import (
	"fmt"
	"math"
	"math/rand"
	"slices"
	"strings"
	"testing"
	"unsafe"

	"caesura/alphabet"
	"caesura/api"
)

func of(s api.Set) api.Expr { return api.Expr{Kind: api.ExprSet, Set: s} }

func node(kind int, parts ...api.Expr) api.Expr { return api.Expr{Kind: kind, Parts: parts} }

// same is the chapter's word: nil lists and empty ones are alike.
func same(a, b api.Set) bool {
	return a.Not == b.Not && slices.Equal(a.Names, b.Names) && slices.Equal(a.Points, b.Points)
}

// setsAfterWords goes through expressions by a list of those still to be met, and compares each set with all ahead of it.
func setsAfterWords(r api.Rules, entries [][]int) []api.Set {
	var all, once []api.Set
	for _, rule := range r.Rules {
		ahead := []api.Expr{rule.Right, rule.Left}
		for len(ahead) > 0 {
			e := ahead[len(ahead)-1]
			ahead = ahead[:len(ahead)-1]
			if e.Kind == 2 {
				all = append(all, e.Set)
			}
			for i := range e.Parts {
				ahead = append(ahead, e.Parts[len(e.Parts)-1-i])
			}
		}
	}
	if r.Suppress >= 0 {
		all = append(all, r.Trail)
		for _, p := range slices.Concat(entries...) {
			all = append(all, points(p, p))
		}
	}
	for _, s := range all {
		if !slices.ContainsFunc(once, func(ahead api.Set) bool { return same(s, ahead) }) {
			once = append(once, s)
		}
	}
	return once
}

func expectSets(t *testing.T, r api.Rules, entries [][]int, want ...api.Set) {
	t.Helper()
	if got := alphabet.Sets(r, entries); !slices.EqualFunc(got, want, same) {
		t.Errorf("P10.2: Sets(%s, %s) = %s, want %s", brief(r), brief(entries), brief(got), brief(want))
	}
}

func left(e api.Expr) api.Rules { return api.Rules{Suppress: -1, Rules: []api.Rule{{Left: e}}} }

func TestP10_2_Order(t *testing.T) {
	a, b, c, d := names("A"), names("B"), points('c', 'c'), not(names("D"))
	r := api.Rules{Suppress: 1, Trail: names("S"), Rules: []api.Rule{
		{Name: "X", Left: node(api.ExprSeq, of(b), node(api.ExprStar, of(a))), Right: of(b)},
		{Name: "Y", Left: node(api.ExprEmpty), Right: node(api.ExprAlt, of(d), node(api.ExprOpt, node(api.ExprSeq, of(a), of(c))), of(names("E")))},
	}}
	entries := [][]int{{'a', 'b'}, {'b', 'c', 'd'}}
	expectSets(t, r, entries, b, a, d, c, names("E"), names("S"), points('a', 'a'), points('b', 'b'), points('d', 'd'))
	expectSets(t, r, nil, b, a, d, c, names("E"), names("S"))
	r.Trail = a
	expectSets(t, r, [][]int{{'c'}}, b, a, d, c, names("E"))
	for _, suppress := range []int{-1, -2, math.MinInt} {
		r.Suppress = suppress
		expectSets(t, r, entries, b, a, d, c, names("E"))
	}
	r.Trail = names("S")
	for _, suppress := range []int{0, 2, 3, 1000, math.MaxInt} {
		r.Suppress = suppress
		expectSets(t, r, [][]int{{'a'}}, b, a, d, c, names("E"), names("S"), points('a', 'a'))
	}
}

func TestP10_2_Nothing(t *testing.T) {
	expectSets(t, api.Rules{Suppress: -1}, nil)
	expectSets(t, api.Rules{Suppress: -1, Trail: names("S")}, [][]int{{'a'}})
	expectSets(t, api.Rules{}, nil, api.Set{}) // the Trail that holds nothing is a set too
	expectSets(t, api.Rules{}, [][]int{{}, nil, {}}, api.Set{})
	expectSets(t, api.Rules{Trail: not(api.Set{})}, [][]int{{7}, {}, {7, 7}}, not(api.Set{}), points(7, 7))
	expectSets(t, left(node(api.ExprEmpty)), nil)
	expectSets(t, left(api.Expr{}), nil)
}

func TestP10_2_OfEachKind(t *testing.T) {
	a, b, x := names("A"), names("B"), names("X")
	for _, kind := range []int{api.ExprEmpty, api.ExprSeq, api.ExprAlt, api.ExprStar, api.ExprPlus, api.ExprOpt, 0, -1, 8, math.MaxInt, math.MinInt} {
		// Of a kind that is no set its Parts alone count, however many there are.
		for _, parts := range [][]api.Expr{nil, {of(a)}, {of(b), of(a)}} {
			e := api.Expr{Kind: kind, Set: x, Parts: parts}
			var want []api.Set
			for _, part := range parts {
				want = append(want, part.Set)
			}
			expectSets(t, left(e), nil, want...)
		}
	}
	// A set that has Parts stands ahead of them.
	expectSets(t, left(api.Expr{Kind: api.ExprSet, Set: x, Parts: []api.Expr{of(b), {Kind: api.ExprSet, Set: a, Parts: []api.Expr{of(points(1, 1)), of(x)}}, of(names("C"))}}), nil, x, b, a, points(1, 1), names("C"))
}

func TestP10_2_ManyRules(t *testing.T) {
	var r api.Rules
	var want []api.Set
	for i := range 200 {
		one, two := points(i, i), points(i+1000, i+1000)
		r.Rules = append(r.Rules, api.Rule{Left: of(one), Right: of(two), Start: i%2 == 0, Break: i%3 == 0})
		want = append(want, one, two)
	}
	r.Suppress = -1
	expectSets(t, r, nil, want...)
}

// What may not be is told as it is, and no two sets are taken for the same.
func TestP10_2_SetsThatMayNotBe(t *testing.T) {
	const low, high = math.MinInt, math.MaxInt
	unlike := sets(
		api.Set{}, not(api.Set{}), names(""), names("", ""), names("A"), names("A", ""), names("", "A"), names("A", "B"), names("B", "A"), names("A", "A"), names("AB"), names("AB", ""), names("A\x00B"), names("A\x01B"), names("\x01A"), names("\x00"), names("\x01", "A"), names("\xff"), names("\xff\xff"), names(strings.Repeat("n", 127)), names(strings.Repeat("n", 128)), names(strings.Repeat("n", 300)),
		points(0, 0), points(0, 0, 0, 0), points(0, 1), points(1, 0), points(5, 4), points(1, 2, 3, 4), points(3, 4, 1, 2), points(1, 2), points(2, 1), points(-1, -1), points(-1, 1), points(1, -1), points(low, high), points(high, low), points(low, low), points(high, high), points(127, 127), points(127, 128), points(128, 127), points(128, 1), points(1, 128), points(0x80, 0x4000), points(0x4000, 0x80), points(-128, 128), points(256, 256), points(0, 2, 0, 2), points(128, 128), points(0, 1, 0, 1), points(1<<32, 1), points(1, 1<<32), points(1<<32+1, 1), points(1<<62, 1),
		both(names("A"), points(0, 0)), both(names("A"), points(1, 1)), both(names(""), points(0, 0)), both(names("A", "B"), points(0, 0)), not(names("A")), not(points(0, 0)), not(both(names("A"), points(0, 0))), names("\x00\x00"), names("\x01\x00"), both(names("\x01"), points(1, 1)), both(names("\x01\x01"), points(1, 1)),
	)
	var parts []api.Expr
	for _, s := range unlike {
		parts = append(parts, of(s))
	}
	expectSets(t, left(node(api.ExprSeq, append(parts, parts...)...)), nil, unlike...)
	for _, s := range unlike {
		expectSets(t, api.Rules{Trail: s}, nil, s)
	}
	// Empty lists are like none.
	hollow := api.Set{Names: []string{}, Points: []api.Range{}}
	expectSets(t, left(node(api.ExprSeq, of(api.Set{}), of(hollow), of(api.Set{Names: []string{}}), of(names("A")), of(api.Set{Names: []string{"A"}, Points: []api.Range{}}))), nil, api.Set{}, names("A"))
}

func TestP10_2_EntriesThatMayNotBe(t *testing.T) {
	l := []int{-1, math.MinInt, math.MaxInt, 0xd800, top, top + 1, 0, -1, 0xd800}
	expectSets(t, api.Rules{Rules: []api.Rule{{Left: of(points(top, top))}}}, [][]int{l, nil, {5, 0}, l}, points(top, top), api.Set{}, points(-1, -1), points(math.MinInt, math.MinInt), points(math.MaxInt, math.MaxInt), points(0xd800, 0xd800), points(top+1, top+1), points(0, 0), points(5, 5))
	var long []int
	want := sets(api.Set{})
	for i := range 5000 {
		long = append(long, i)
		want = append(want, points(i, i))
	}
	expectSets(t, api.Rules{}, [][]int{long, long}, want...)
}

// An expression may be as deep as the page bounds it; a set that stands deep is met as fast as one at the top.
func TestP10_2_DeepAndWide(t *testing.T) {
	deep := of(names("Last"))
	for i := range 1<<16 - 1 {
		deep = node(api.ExprSeq, of(points(i%100, i%100)), deep)
	}
	got := alphabet.Sets(left(deep), nil)
	if len(got) != 101 || !same(got[0], points(34, 34)) || !same(got[99], points(35, 35)) || !same(got[100], names("Last")) {
		t.Errorf("P10.2: Sets of a deep expression: %d sets, %s", len(got), brief(got))
	}
	var wide []api.Expr
	for i := range 300000 {
		wide = append(wide, of(points(i%7, i%7)))
	}
	expectSets(t, left(node(api.ExprAlt, wide...)), nil, points(0, 0), points(1, 1), points(2, 2), points(3, 3), points(4, 4), points(5, 5), points(6, 6))
}

// someExpr is one by chance, such as may be or not.
func someExpr(random *rand.Rand, deep int) api.Expr {
	e := api.Expr{Kind: random.Intn(9)}
	if random.Intn(3) > 0 {
		e.Kind = api.ExprSet
	}
	e.Set.Not = random.Intn(4) == 0
	for range random.Intn(3) {
		e.Set.Names = append(e.Set.Names, []string{"A", "B", "AB", ""}[random.Intn(4)])
	}
	for range random.Intn(2) {
		e.Set.Points = append(e.Set.Points, api.Range{Low: random.Intn(3) - 1, High: random.Intn(3)})
	}
	for range random.Intn(4) {
		if deep > 0 {
			e.Parts = append(e.Parts, someExpr(random, deep-1))
		}
	}
	return e
}

func TestP10_2_Samples(t *testing.T) {
	random := rand.New(rand.NewSource(102))
	for range 3000 {
		r := api.Rules{Suppress: random.Intn(4) - 2, Trail: someExpr(random, 0).Set}
		for range random.Intn(4) {
			r.Rules = append(r.Rules, api.Rule{Left: someExpr(random, 3), Right: someExpr(random, 3)})
		}
		var entries [][]int
		for range random.Intn(4) {
			var entry []int
			for range random.Intn(4) {
				entry = append(entry, random.Intn(5)-1)
			}
			entries = append(entries, entry)
		}
		expectSets(t, r, entries, setsAfterWords(r, entries)...)
	}
}

func TestP0_5_MemoryOfSets(t *testing.T) {
	text := strings.Repeat("Alpha", 1000)
	shared := api.Set{Names: append(make([]string, 0, 4), text[:5], "B"), Points: append(make([]api.Range, 0, 4), api.Range{Low: 1, High: 2})}
	r := api.Rules{Suppress: 0, Trail: not(shared), Rules: []api.Rule{{Left: node(api.ExprSeq, of(shared), of(api.Set{Names: shared.Names}), of(api.Set{Points: shared.Points}))}}}
	entries := [][]int{append(make([]int, 0, 4), 'a', 'b')}
	before := fmt.Sprint(r, entries)
	got := alphabet.Sets(r, entries)
	if len(got) != 6 {
		t.Fatalf("P10.2: %v", got)
	}
	if now := fmt.Sprint(r, entries, entries[0][:4], shared.Names[:4], shared.Points[:4]); now != before+" [97 98 0 0] [Alpha B  ] [{1 2} {0 0} {0 0} {0 0}]" {
		t.Errorf("P0.5: Sets has changed what it was handed: %s, before %s", now, before)
	}
	if unsafe.StringData(got[0].Names[0]) == unsafe.StringData(text) {
		t.Error("P0.5: an answer's name holds the text that it was cut from")
	}
	want := fmt.Sprint(got)
	shared.Names[0], shared.Points[0], entries[0][0] = "Z", api.Range{Low: 8, High: 9}, 'z'
	if now := fmt.Sprint(got); now != want {
		t.Errorf("P0.5: Sets has kept what it was handed: %s, before %s", now, want)
	}
	for i := range got {
		l := slices.Clone(got)
		l[i] = api.Set{}
		want := fmt.Sprint(l)
		for k := range got[i].Names[:cap(got[i].Names)] {
			got[i].Names[:cap(got[i].Names)][k] = "Q"
		}
		for k := range got[i].Points[:cap(got[i].Points)] {
			got[i].Points[:cap(got[i].Points)][k] = api.Range{Low: 6, High: 6}
		}
		l = slices.Clone(got)
		l[i] = api.Set{}
		if now := fmt.Sprint(l); now != want {
			t.Errorf("P0.5: two lists of one answer share memory: %s, before %s", now, want)
		}
	}
}
