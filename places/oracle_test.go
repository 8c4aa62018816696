package places_test

import (
	"fmt"
	"math/rand"
	"slices"
	"testing"

	"caesura/alphabet"
	"caesura/api"
	"caesura/props"
)

// brief shows the beginning of what may be great.
func brief(x any) string {
	text := fmt.Sprint(x)
	return text[:min(len(text), 400)]
}

func of(s api.Set) api.Expr { return api.Expr{Kind: api.ExprSet, Set: s} }

func letter(p int) api.Expr { return of(api.Set{Points: []api.Range{{Low: p, High: p}}}) }

func node(kind int, parts ...api.Expr) api.Expr { return api.Expr{Kind: kind, Parts: parts} }

func seq(parts ...api.Expr) api.Expr { return node(api.ExprSeq, parts...) }
func alt(parts ...api.Expr) api.Expr { return node(api.ExprAlt, parts...) }
func star(e api.Expr) api.Expr       { return node(api.ExprStar, e) }
func plus(e api.Expr) api.Expr       { return node(api.ExprPlus, e) }
func opt(e api.Expr) api.Expr        { return node(api.ExprOpt, e) }

// many is so many times the same expression.
func many(n int, e api.Expr) []api.Expr { return slices.Repeat([]api.Expr{e}, n) }

var (
	empty   = api.Expr{Kind: api.ExprEmpty}
	a, b    = letter('a'), letter('b')
	none    = of(api.Set{})
	all     = of(api.Set{Not: true})
	neither = of(api.Set{Not: true, Points: []api.Range{{Low: 'a', High: 'b'}}})
	upper   = of(api.Set{Names: []string{"Upper"}})
)

// table has the class Upper for A to C.
func table(t *testing.T) *props.Table {
	t.Helper()
	x, err := props.New(api.Property{Names: []string{"Upper"}, Spans: []api.Span{{Low: 'A', High: 'C'}}})
	if err != nil {
		t.Fatal(err)
	}
	return x
}

func alphabetOf(t *testing.T, l ...api.Expr) *alphabet.Alphabet {
	t.Helper()
	var sets []api.Set
	for _, e := range l {
		sets = append(sets, e.Set)
	}
	x, err := alphabet.New(table(t), sets)
	if err != nil {
		t.Fatal(err)
	}
	return x
}

// known is what the chapter's table says of an expression: First, Last by places, Follow by pairs.
type known struct {
	empty       bool
	first, last map[int]bool
	follow      map[[2]int]bool
}

// counter numbers places and keeps their sets.
type counter struct{ sets []api.Set }

func join(to, from map[int]bool) {
	for x := range from {
		to[x] = true
	}
}

// afterWords says each row of the table as it stands there.
func (c *counter) afterWords(e api.Expr) known {
	k := known{first: map[int]bool{}, last: map[int]bool{}, follow: map[[2]int]bool{}}
	if e.Kind == api.ExprSet {
		k.first[len(c.sets)], k.last[len(c.sets)] = true, true
		c.sets = append(c.sets, e.Set)
		return k
	}
	var parts []known
	for _, p := range e.Parts {
		parts = append(parts, c.afterWords(p))
		for pair := range parts[len(parts)-1].follow {
			k.follow[pair] = true
		}
	}
	allEmpty := func(from, to int) bool {
		return !slices.ContainsFunc(parts[from:to], func(p known) bool { return !p.empty })
	}
	for i, p := range parts {
		if e.Kind != api.ExprSeq || allEmpty(0, i) {
			join(k.first, p.first)
		}
		if e.Kind != api.ExprSeq || allEmpty(i+1, len(parts)) {
			join(k.last, p.last)
		}
		for j := i + 1; e.Kind == api.ExprSeq && j < len(parts); j++ {
			if allEmpty(i+1, j) {
				pairs(k.follow, p.last, parts[j].first)
			}
		}
	}
	switch e.Kind {
	case api.ExprEmpty, api.ExprStar, api.ExprOpt:
		k.empty = true
	case api.ExprSeq, api.ExprPlus:
		k.empty = allEmpty(0, len(parts))
	case api.ExprAlt:
		k.empty = slices.ContainsFunc(parts, func(p known) bool { return p.empty })
	}
	if e.Kind == api.ExprStar || e.Kind == api.ExprPlus {
		pairs(k.follow, k.last, k.first)
	}
	return k
}

func pairs(follow map[[2]int]bool, last, first map[int]bool) {
	for x := range last {
		for y := range first {
			follow[[2]int{x, y}] = true
		}
	}
}

func rising(s map[int]bool, end int) []int {
	var l []int
	for x := range end {
		if s[x] {
			l = append(l, x)
		}
	}
	return l
}

// expected is the positions of an expression after the chapter's words.
func expected(t *testing.T, e api.Expr, x *alphabet.Alphabet) api.Positions {
	t.Helper()
	var c counter
	k := c.afterWords(e)
	places := len(c.sets)
	p := api.Positions{First: rising(k.first, places), Last: rising(k.last, places), Empty: k.empty}
	for _, s := range c.sets {
		l, err := x.Letters(s)
		if err != nil {
			t.Fatal(err)
		}
		p.Letters = append(p.Letters, l)
	}
	p.Follow = make([][]int, places)
	for x := range places {
		for y := range places {
			if k.follow[[2]int{x, y}] {
				p.Follow[x] = append(p.Follow[x], y)
			}
		}
	}
	return p
}

// same holds nil and empty lists for the same.
func same(p, q api.Positions) bool {
	lists := func(l, m [][]int) bool { return slices.EqualFunc(l, m, slices.Equal[[]int]) }
	return p.Empty == q.Empty && slices.Equal(p.First, q.First) && slices.Equal(p.Last, q.Last) && lists(p.Letters, q.Letters) && lists(p.Follow, q.Follow)
}

// matches looks for a row of places as P11.3 says it, from the word's end on: can a row begin at place x with symbol i?
func matches(p api.Positions, word []int) bool {
	places := len(p.Letters)
	for _, l := range append(slices.Clone(p.Follow), p.First, p.Last) {
		for _, x := range l {
			if x < 0 || x >= places {
				return false
			}
		}
	}
	if len(p.Follow) != places {
		return false
	}
	if len(word) == 0 {
		return p.Empty
	}
	can := make([]bool, places)
	for i := len(word) - 1; i >= 0; i-- {
		ahead := can
		can = make([]bool, places)
		for x := range places {
			goesOn := i == len(word)-1 && slices.Contains(p.Last, x)
			if i < len(word)-1 {
				goesOn = slices.ContainsFunc(p.Follow[x], func(y int) bool { return ahead[y] })
			}
			can[x] = goesOn && slices.Contains(p.Letters[x], word[i])
		}
	}
	return slices.ContainsFunc(p.First, func(x int) bool { return can[x] })
}

// someExpr is one by chance that may be, over the sets of leaves.
func someExpr(random *rand.Rand, deep int, leaves []api.Expr) api.Expr {
	if deep == 0 || random.Intn(4) == 0 {
		if random.Intn(6) == 0 {
			return empty
		}
		return leaves[random.Intn(len(leaves))]
	}
	kind := api.ExprSeq + random.Intn(5)
	n := 1
	if kind == api.ExprSeq || kind == api.ExprAlt {
		n = 2 + random.Intn(3)
	}
	e := api.Expr{Kind: kind}
	for len(e.Parts) < n {
		p := someExpr(random, deep-1, leaves)
		if p.Kind == kind && n > 1 || kind == api.ExprSeq && p.Kind == api.ExprEmpty {
			continue
		}
		e.Parts = append(e.Parts, p)
	}
	return e
}

func someNumbers(random *rand.Rand, most, low, high int) []int {
	var l []int
	for range random.Intn(most + 1) {
		l = append(l, low+random.Intn(high-low+1))
	}
	return l
}

// somePositions are by chance: lists that rise, mostly, if tidy is true; else in any order, and now and then with a number that is no place.
func somePositions(random *rand.Rand, tidy bool) api.Positions {
	places := random.Intn(5)
	list := func(end int) []int {
		low, high := 0, end-1
		if !tidy && random.Intn(12) == 0 {
			low, high = -1, end
		}
		if high < low {
			return nil
		}
		l := someNumbers(random, 4, low, high)
		if tidy {
			slices.Sort(l)
			l = slices.Compact(l)
		}
		return l
	}
	p := api.Positions{First: list(places), Last: list(places), Empty: random.Intn(2) == 0}
	for range places {
		p.Letters, p.Follow = append(p.Letters, list(3)), append(p.Follow, list(places))
	}
	return p
}
