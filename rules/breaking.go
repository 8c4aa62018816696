package rules

import (
	"slices"

	"caesura/api"
	"caesura/expr"
)

// trial is asked whether it fits a place; the first one that does decides.
type trial struct {
	fits   func(place int) bool
	breaks bool
}

// trialsOf are those of the rules, with one for all suppressions in its place among them.
func trialsOf(r api.Rules, entries [][]int, word []api.Kind) []trial {
	back := slices.Clone(word)
	slices.Reverse(back)
	var trials []trial
	for _, rule := range r.Rules {
		trials = append(trials, ruleTrial(rule, word, back))
	}
	if r.Suppress < 0 {
		return trials
	}
	before := min(r.Suppress, len(trials))
	return slices.Insert(trials, before, suppressTrial(entries, r.Trail, word))
}

// ruleTrial reads the left side from the place back, so that a word that does not fit is left at once, whatever stands far from the place.
func ruleTrial(rule api.Rule, word, back []api.Kind) trial {
	left := opening(expr.Reverse(rule.Left), rule.Start)
	right := opening(rule.Right, rule.End)
	fits := func(place int) bool {
		return left(back[len(word)-place:]) && right(word[place:])
	}
	return trial{fits, rule.Break}
}

// opening is asked of a word whether it begins with one that e matches, or (whole) whether it is one itself.
func opening(e api.Expr, whole bool) func(word []api.Kind) bool {
	if whole || expr.Check(e) != nil {
		return func(word []api.Kind) bool { return expr.Match(e, word) }
	}
	long := withRest(e)
	if expr.Check(long) == nil {
		return func(word []api.Kind) bool { return expr.Match(long, word) }
	}
	// With the rest it would be above a limit, so each beginning is tried alone.
	return func(word []api.Kind) bool {
		for end := range len(word) + 1 {
			if expr.Match(e, word[:end]) {
				return true
			}
		}
		return false
	}
}

// withRest matches a word that e matches, and behind it any units; in normal form, if e is.
func withRest(e api.Expr) api.Expr {
	all := oneSet(api.Set{Not: true})
	rest := api.Expr{Kind: api.ExprStar, Parts: []api.Expr{all}}
	switch e.Kind {
	case api.ExprEmpty:
		return rest
	case api.ExprSeq:
		return api.Expr{Kind: api.ExprSeq, Parts: slices.Concat(e.Parts, []api.Expr{rest})}
	}
	return api.Expr{Kind: api.ExprSeq, Parts: []api.Expr{e, rest}}
}

// suppressTrial finds all entries in the word at once: at a place it is only looked up whether one is in the way.
func suppressTrial(entries [][]int, trail api.Set, word []api.Kind) trial {
	inside, behind := make([]bool, len(word)+1), make([]bool, len(word)+1)
	for _, entry := range entries {
		for _, start := range startsOf(entry, word) {
			for place := start + 1; place < start+len(entry); place++ {
				inside[place] = true
			}
			behind[start+len(entry)] = true
		}
	}
	for place, unit := range word {
		if behind[place] && expr.Holds(trail, unit) {
			behind[place+1] = true
		}
	}
	return trial{func(place int) bool { return inside[place] || behind[place] }, false}
}

// startsOf are the places from which on an entry stands in the word; none of an entry without points.
func startsOf(entry []int, word []api.Kind) []int {
	var starts []int
	for start := range len(word) - len(entry) + 1 {
		if len(entry) > 0 && standsAt(entry, word[start:]) {
			starts = append(starts, start)
		}
	}
	return starts
}

func standsAt(entry []int, word []api.Kind) bool {
	for i, point := range entry {
		if word[i].Point != point {
			return false
		}
	}
	return true
}
