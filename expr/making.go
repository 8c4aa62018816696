package expr

import (
	"slices"
	"strings"

	"caesura/api"
)

// eachOf answers a new list, or nil of none.
func eachOf[From, To any](list []From, made func(From) To) []To {
	var answer []To
	for _, one := range list {
		answer = append(answer, made(one))
	}
	return answer
}

func onePoint(p int) api.Expr {
	return api.Expr{Kind: api.ExprSet, Set: api.Set{Points: []api.Range{{Low: p, High: p}}}}
}

func starOf(s api.Set) api.Expr {
	return api.Expr{Kind: api.ExprStar, Parts: []api.Expr{{Kind: api.ExprSet, Set: s}}}
}

func copied(e api.Expr) api.Expr {
	return api.Expr{Kind: e.Kind, Set: copiedSet(e.Set), Parts: eachOf(e.Parts, copied)}
}

func copiedSet(s api.Set) api.Set {
	points := append([]api.Range(nil), s.Points...)
	return api.Set{Not: s.Not, Names: eachOf(s.Names, strings.Clone), Points: points}
}

// turnRound works in the lists of e themselves.
func turnRound(e api.Expr) {
	if e.Kind == api.ExprSeq {
		slices.Reverse(e.Parts)
	}
	for _, part := range e.Parts {
		turnRound(part)
	}
}

// woven is e with trail behind each set. It shares the sets of both.
func woven(e, trail api.Expr) api.Expr {
	switch e.Kind {
	case api.ExprSet:
		return api.Expr{Kind: api.ExprSeq, Parts: []api.Expr{e, trail}}
	case api.ExprSeq:
		return wovenRow(e, trail)
	}
	inner := func(part api.Expr) api.Expr { return woven(part, trail) }
	return api.Expr{Kind: e.Kind, Parts: eachOf(e.Parts, inner)}
}

// wovenRow puts trail into the row itself: a row within a row is not the form.
func wovenRow(e, trail api.Expr) api.Expr {
	row := api.Expr{Kind: api.ExprSeq}
	for _, part := range e.Parts {
		if part.Kind == api.ExprSet {
			row.Parts = append(row.Parts, part, trail)
		} else {
			row.Parts = append(row.Parts, woven(part, trail))
		}
	}
	return row
}
