package rules

import (
	"slices"
	"strings"

	"caesura/api"
	"caesura/expr"
	"caesura/ranges"
)

// fault is what reading and printing panic with, so that no other panic is taken for a refusal.
type fault struct {
	err error
}

func need(ok bool, otherwise error) {
	if !ok {
		panic(fault{otherwise})
	}
}

func needNone(err error) {
	need(err == nil, err)
}

func faultOf(caught any) fault {
	f, ours := caught.(fault)
	if !ours {
		panic(caught)
	}
	return f
}

// reading is what the lines up to here have said.
type reading struct {
	line    int // the number of the one that is read
	made    api.Rules
	ended   bool // by an else
	lets    map[string]api.Set
	classes map[string]int // the words that stood for a class, and the line
	skips   []api.Set      // what is skipped: one set, or none
}

func newReading() *reading {
	return &reading{
		made:    api.Rules{Suppress: -1},
		lets:    map[string]api.Set{},
		classes: map[string]int{},
	}
}

// takeAll takes line by line. A 0D that the file's end follows ends no line, so it stays.
func (r *reading) takeAll(text string) {
	for rest, more := text, true; more; {
		var line string
		line, rest, more = strings.Cut(rest, "\n")
		if more {
			line = strings.TrimSuffix(line, "\r")
		}
		r.line++
		r.takeLine(line)
	}
}

func (r *reading) takeLine(line string) {
	if countTokens(line) == 0 {
		return
	}
	need(!r.ended, api.ErrText)
	s := newScanner(line)
	first := s.mustTakeWord()
	switch {
	case s.takes(":"):
		r.takeRule(first, s)
	case first == "let":
		r.takeLet(s)
	case first == "skip":
		r.takeSkip(s)
	case first == "suppress":
		r.takeSuppress(s)
	case first == "else":
		r.takeElse(s)
	default:
		need(false, api.ErrText)
	}
}

// countTokens is how many tokens a line has. That it can be cut into them, and that its brackets are not too deep, is asked ahead of all else.
func countTokens(line string) int {
	tokens, deep, deepest := 0, 0, 0
	next := tokensOf(line)
	for t := next(); t.sort != lineEnd; t = next() {
		tokens++
		switch t.text {
		case "(":
			deep++
		case ")":
			deep--
		}
		deepest = max(deepest, deep)
	}
	need(deepest <= api.MaxNest, api.ErrMany)
	return tokens
}

func (r *reading) takeLet(s *scanner) {
	name := s.mustTakeWord()
	s.mustTake("=")
	set := s.takeSet()
	s.mustEnd()
	need(len(r.lets) < api.MaxLets, api.ErrMany)
	r.judge(set)
	need(r.classes[name] == 0, api.ErrOrder)
	need(!r.isLet(name), api.ErrTwice)
	r.lets[name] = r.setOf(set)
}

func (r *reading) takeSkip(s *scanner) {
	set := s.takeSet()
	s.mustEnd()
	r.judge(set)
	need(len(r.skips) == 0, api.ErrTwice)
	r.skips = append(r.skips, r.setOf(set))
}

func (r *reading) takeSuppress(s *scanner) {
	var set written // it holds nothing, if none stands there
	if s.ahead.sort != lineEnd {
		set = s.takeSet()
	}
	s.mustEnd()
	r.judge(set)
	need(r.made.Suppress < 0, api.ErrTwice)
	r.made.Trail = r.setOf(set)
	needNone(expr.Check(oneSet(r.made.Trail)))
	r.made.Suppress = len(r.made.Rules)
}

func (r *reading) takeRule(name string, s *scanner) {
	rule := api.Rule{Name: strings.Clone(name)}
	rule.Start = s.takes("^")
	left := s.takeSide()
	rule.Break = s.takeMark()
	right := s.takeSide()
	rule.End = s.takes("$")
	s.mustEnd()
	need(len(r.made.Rules) < api.MaxRules, api.ErrMany)
	r.judge(slices.Concat(left.sets, right.sets)...)
	need(!hasRule(r.made.Rules, name), api.ErrTwice)
	rule.Left, rule.Right = r.filled(left), r.filled(right)
	for _, skip := range r.skips {
		rule.Left, rule.Right = skipped(rule.Left, skip), skipped(rule.Right, skip)
	}
	r.made.Rules = append(r.made.Rules, rule)
}

func (r *reading) takeElse(s *scanner) {
	r.made.Else = s.takeMark()
	s.mustEnd()
	r.ended = true
}

func (r *reading) isLet(name string) bool {
	_, there := r.lets[name]
	return there
}

// judge asks of all sets of a line whether lets stand where they may, and only then whether ranges run the right way; words that are no lets stand for classes from now on.
func (r *reading) judge(sets ...written) {
	turned := func(w string) bool { return r.lets[w].Not }
	for _, set := range sets {
		need(!set.bracketed || !slices.ContainsFunc(set.words, turned), api.ErrArg)
	}
	falling := func(p api.Range) bool { return p.Low > p.High }
	for _, set := range sets {
		need(!slices.ContainsFunc(set.points, falling), api.ErrOrder)
		for _, w := range set.words {
			if !r.isLet(w) {
				r.classes[w] = r.line
			}
		}
	}
}

// setOf is what a written set stands for, in new memory. It was judged.
func (r *reading) setOf(set written) api.Set {
	made := api.Set{Not: set.not}
	made.Points, _ = ranges.Normal(set.points)
	// Each word once: a great let may be named again and again.
	for _, w := range slices.Compact(slices.Sorted(slices.Values(set.words))) {
		let, there := r.lets[w]
		if !there {
			// A copy, lest a name hold the whole text in memory.
			made.Names = append(made.Names, strings.Clone(w))
			continue
		}
		// With brackets around it a let has no Not.
		made.Not = made.Not || let.Not
		made.Names = append(made.Names, let.Names...)
		made.Points, _ = ranges.Union(made.Points, let.Points)
	}
	slices.Sort(made.Names)
	made.Names = slices.Compact(made.Names)
	return made
}

// filled is a side with its sets put in. Its form comes first, no set is made twice, and none behind the one that is too much: few bytes of a line may stand for a great many sets, and a word for a great one.
func (r *reading) filled(s side) api.Expr {
	needNone(expr.Check(s.form))
	spans := 0
	known := map[string]api.Set{}
	var sets []api.Set
	for _, set := range s.sets {
		key := set.key()
		made, there := known[key]
		if !there {
			made = r.setOf(set)
			known[key] = made
		}
		spans += len(made.Names) + len(made.Points)
		need(spans <= api.MaxSpans, api.ErrMany)
		sets = append(sets, copied(made))
	}
	fill(&s.form, sets)
	return s.form
}

func copied(s api.Set) api.Set {
	return api.Set{Not: s.Not, Names: slices.Clone(s.Names), Points: slices.Clone(s.Points)}
}

// fill puts the sets into the empty ones of e, in their order, and hands back those that are left.
func fill(e *api.Expr, sets []api.Set) []api.Set {
	if e.Kind == api.ExprSet {
		e.Set = sets[0]
		return sets[1:]
	}
	for i := range e.Parts {
		sets = fill(&e.Parts[i], sets)
	}
	return sets
}

func skipped(e api.Expr, skip api.Set) api.Expr {
	long, err := expr.Skip(e, skip)
	needNone(err)
	return long
}
