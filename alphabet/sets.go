package alphabet

import (
	"iter"
	"slices"
	"strings"

	"caesura/api"
	"caesura/expr"
	"caesura/ranges"
)

// collection is sets, each once, in the order in which they came first. It shares their lists with who put them there.
type collection struct {
	sets    []api.Set
	numbers map[string]int // of each set, by its key, where it stands
}

func newCollection() *collection {
	return &collection{numbers: map[string]int{}}
}

func (c *collection) put(s api.Set) {
	key := keyOf(s)
	if _, known := c.numbers[string(key)]; known {
		return
	}
	c.numbers[string(key)] = len(c.sets)
	c.sets = append(c.sets, s)
}

func (c *collection) putSetsOf(e api.Expr) {
	for node := range nodes(e) {
		if node.Kind == api.ExprSet {
			c.put(node.Set)
		}
	}
}

func (c *collection) putPoints(entries [][]int) {
	for _, entry := range entries {
		for i := range entry {
			c.put(expr.Word(entry[i : i+1]).Set)
		}
	}
}

// nodes goes through an expression: itself, then its parts, each with its own.
func nodes(e api.Expr) iter.Seq[api.Expr] {
	return func(yield func(api.Expr) bool) { goThrough(e, yield) }
}

// goThrough hands yield down as it is: going from iterator to iterator would take as many steps for a node as it is deep.
func goThrough(e api.Expr, yield func(api.Expr) bool) bool {
	if !yield(e) {
		return false
	}
	for _, part := range e.Parts {
		if !goThrough(part, yield) {
			return false
		}
	}
	return true
}

// keyOf is the same of two sets just if they are the same, such as may not be too: each text has its length ahead of it, each number tells where it ends.
func keyOf(s api.Set) []byte {
	not := 0
	if s.Not {
		not = 1
	}
	key := appendNumber(nil, not)
	key = appendNumber(key, len(s.Names))
	for _, name := range s.Names {
		key = appendNumber(key, len(name))
		key = append(key, name...)
	}
	for _, r := range s.Points {
		key = appendNumber(key, r.Low)
		key = appendNumber(key, r.High)
	}
	return key
}

// appendNumber writes seven bits a byte, the lowest first; the last byte alone is below 128.
func appendNumber(key []byte, n int) []byte {
	rest := uint64(n)
	for ; rest >= 0x80; rest >>= 7 {
		key = append(key, byte(rest)|0x80)
	}
	return append(key, byte(rest))
}

func copied(sets []api.Set) []api.Set {
	list := make([]api.Set, 0, len(sets))
	for _, s := range sets {
		names := make([]string, 0, len(s.Names))
		for _, name := range s.Names {
			// A copy, lest a name hold the text in memory that it was cut from.
			names = append(names, strings.Clone(name))
		}
		list = append(list, api.Set{Not: s.Not, Names: names, Points: slices.Clone(s.Points)})
	}
	return list
}

func allMayBe(sets []api.Set) bool {
	for _, s := range sets {
		if !namesMayBe(s.Names) || !pointsMayBe(s.Points) {
			return false
		}
	}
	return true
}

func namesMayBe(names []string) bool {
	for i, name := range names {
		if i > 0 && name <= names[i-1] || !isName(name) {
			return false
		}
	}
	return true
}

// isName asks expr of the set of the name alone: a whole set may have more names than an expression.
func isName(name string) bool {
	one := api.Set{Names: []string{name}}
	return expr.Check(api.Expr{Kind: api.ExprSet, Set: one}) == nil
}

func pointsMayBe(points []api.Range) bool {
	normal, err := ranges.Normal(points)
	return err == nil && slices.Equal(normal, points)
}
