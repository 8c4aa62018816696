package expr

import (
	"slices"
	"strings"

	"caesura/api"
)

const (
	maxDeep   = 4 * api.MaxNest
	letters   = "ABCDEFGHIJKLMNOPQRSTUVWXYZabcdefghijklmnopqrstuvwxyz"
	nameBytes = letters + "0123456789_"
)

// fault is what going through panics with, so that no other panic is taken for an expression that may not be.
type fault struct {
	err error
}

func need(ok bool, otherwise error) {
	if !ok {
		panic(fault{otherwise})
	}
}

func faultOf(caught any) fault {
	f, ours := caught.(fault)
	if !ours {
		panic(caught)
	}
	return f
}

// walk is how many nodes were met so far, and how many names and ranges their sets have.
type walk struct {
	nodes, spans int
}

// goThrough asks for all faults of a node ahead of its parts. The limits come first, so it ends even in an expression that is a part of itself.
func (w *walk) goThrough(e api.Expr, depth int) {
	w.nodes++
	w.spans += len(e.Set.Names) + len(e.Set.Points)
	need(w.nodes <= api.MaxExpr && depth <= maxDeep && w.spans <= api.MaxSpans, api.ErrMany)
	need(isWhole(e), api.ErrArg)
	need(isInForm(e), api.ErrForm)
	for _, part := range e.Parts {
		w.goThrough(part, depth+1)
	}
}

// isWhole: has a node what its kind asks for, and nothing beside?
func isWhole(e api.Expr) bool {
	switch e.Kind {
	case api.ExprEmpty:
		return len(e.Parts) == 0 && isZero(e.Set)
	case api.ExprSet:
		return len(e.Parts) == 0 && mayBe(e.Set)
	case api.ExprSeq, api.ExprAlt:
		return isZero(e.Set)
	case api.ExprStar, api.ExprPlus, api.ExprOpt:
		return len(e.Parts) == 1 && isZero(e.Set)
	}
	return false
}

func isZero(s api.Set) bool {
	return !s.Not && len(s.Names) == 0 && len(s.Points) == 0
}

// isInForm: could a node's parts not be written in fewer nodes?
func isInForm(e api.Expr) bool {
	switch e.Kind {
	case api.ExprSeq:
		return len(e.Parts) >= 2 && !hasPart(e, api.ExprSeq) && !hasPart(e, api.ExprEmpty)
	case api.ExprAlt:
		return len(e.Parts) >= 2 && !hasPart(e, api.ExprAlt)
	}
	return true
}

func hasPart(e api.Expr, kind int) bool {
	return slices.ContainsFunc(e.Parts, func(part api.Expr) bool { return part.Kind == kind })
}

func mayBe(s api.Set) bool {
	return namesMayBe(s.Names) && pointsMayBe(s.Points)
}

func namesMayBe(names []string) bool {
	for i, name := range names {
		if !isName(name) || i > 0 && name <= names[i-1] {
			return false
		}
	}
	return true
}

func isName(s string) bool {
	if s == "" || len(s) > api.MaxName {
		return false
	}
	return strings.IndexByte(letters, s[0]) >= 0 && strings.Trim(s, nameBytes) == ""
}

// pointsMayBe asks of each range that a point be free ahead of it, so that none touch.
func pointsMayBe(points []api.Range) bool {
	free := 0
	for _, r := range points {
		if r.Low < free || r.High < r.Low || r.High > api.MaxPoint {
			return false
		}
		free = r.High + 2
	}
	return true
}

// count stops at most, so that what is far too great, or a part of itself, is not gone through.
func count(e api.Expr, most int) int {
	nodes := 1
	for _, part := range e.Parts {
		if nodes == most {
			break
		}
		nodes += count(part, most-nodes)
	}
	return nodes
}
