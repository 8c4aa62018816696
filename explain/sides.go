package explain

import (
	"iter"
	"slices"

	"caesura/api"
	"caesura/expr"
)

// endless is more units than any word has.
const endless = 1 << 31

// side is what one side of a rule asks of the units beside a place, read from the place on: so a word that does not fit is left at once, whatever stands far from the place.
type side struct {
	expr    api.Expr
	whole   bool      // it goes on to the text's edge
	opening api.Expr  // expr, and any units behind it; the zero one where that is above a limit
	sets    []api.Set // of expr
	most    int       // no word of more units is matched
}

// sideOf answers of an expression that may not be a side that matches nothing, as the expression does.
func sideOf(e api.Expr, whole bool) side {
	if expr.Check(e) != nil {
		return side{}
	}
	s := side{expr: e, whole: whole, sets: setsOf(e), most: mostOf(e)}
	if opening := withRest(e); expr.Check(opening) == nil {
		s.opening = opening
	}
	return s
}

// withRest matches what begins with a word that e matches; it is in normal form, if e is.
func withRest(e api.Expr) api.Expr {
	unit := api.Expr{Kind: api.ExprSet, Set: api.Set{Not: true}}
	rest := api.Expr{Kind: api.ExprStar, Parts: []api.Expr{unit}}
	switch e.Kind {
	case api.ExprEmpty:
		return rest
	case api.ExprSeq:
		return api.Expr{Kind: api.ExprSeq, Parts: slices.Concat(e.Parts, []api.Expr{rest})}
	}
	return api.Expr{Kind: api.ExprSeq, Parts: []api.Expr{e, rest}}
}

func setsOf(e api.Expr) []api.Set {
	if e.Kind == api.ExprSet {
		return []api.Set{e.Set}
	}
	var sets []api.Set
	for _, part := range e.Parts {
		sets = append(sets, setsOf(part)...)
	}
	return sets
}

// mostOf is how many units the longest word has that e matches, or endless.
func mostOf(e api.Expr) int {
	most := 0
	for _, part := range e.Parts {
		if e.Kind == api.ExprSeq {
			most += mostOf(part)
		} else {
			most = max(most, mostOf(part))
		}
	}
	switch e.Kind {
	case api.ExprSet:
		return 1
	case api.ExprStar, api.ExprPlus:
		most *= endless
	}
	return min(most, endless)
}

// begins: do the units begin with a word of this side?
func (s side) begins(kinds []api.Kind) bool {
	if s.whole || s.opening.Kind == 0 {
		return s.reach(kinds) >= 0
	}
	return expr.Match(s.opening, s.within(kinds))
}

// reach is how many units the longest word of this side has with which the units begin; -1, if there is none.
func (s side) reach(kinds []api.Kind) int {
	if s.whole {
		return longest(s.expr, func(yield func([]api.Kind) bool) { yield(kinds) })
	}
	return longest(s.expr, func(yield func([]api.Kind) bool) {
		most := s.within(kinds)
		for size := len(most); size >= 0; size-- {
			if !yield(most[:size]) {
				return
			}
		}
	})
}

// longest is how many units the first of the words has that e matches; -1, if it matches none.
func longest(e api.Expr, words iter.Seq[[]api.Kind]) int {
	for word := range words {
		if expr.Match(e, word) {
			return len(word)
		}
	}
	return -1
}

// within are those units from the first on that a word of this side may have: it is no longer than the longest, and does not go on over a unit that none of the sets holds.
func (s side) within(kinds []api.Kind) []api.Kind {
	kinds = kinds[:min(s.most, len(kinds))]
	if end := slices.IndexFunc(kinds, s.holdsNot); end >= 0 {
		return kinds[:end]
	}
	return kinds
}

func (s side) holdsNot(k api.Kind) bool {
	return !slices.ContainsFunc(s.sets, func(set api.Set) bool { return expr.Holds(set, k) })
}
