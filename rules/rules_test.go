package rules_test

import (
	"fmt"
	"math/rand"
	"slices"
	"strings"
	"testing"

	"caesura/api"
	"caesura/expr"
	"caesura/rules"
)

func of(s api.Set) api.Expr { return api.Expr{Kind: api.ExprSet, Set: s} }

func class(names ...string) api.Expr { return of(api.Set{Names: names}) }

// span is the set of ranges whose ends stand one behind the other.
func span(ends ...int) api.Expr {
	var s api.Set
	for i := 0; i < len(ends); i += 2 {
		s.Points = append(s.Points, api.Range{Low: ends[i], High: ends[i+1]})
	}
	return of(s)
}

func node(kind int, parts ...api.Expr) api.Expr { return api.Expr{Kind: kind, Parts: parts} }

func seq(parts ...api.Expr) api.Expr { return node(api.ExprSeq, parts...) }

func alt(parts ...api.Expr) api.Expr { return node(api.ExprAlt, parts...) }

func star(e api.Expr) api.Expr { return node(api.ExprStar, e) }

func plus(e api.Expr) api.Expr { return node(api.ExprPlus, e) }

func opt(e api.Expr) api.Expr { return node(api.ExprOpt, e) }

func empty() api.Expr { return node(api.ExprEmpty) }

// many is so many ranges of one point.
func many(n int) api.Set {
	var s api.Set
	for i := range n {
		s.Points = append(s.Points, api.Range{Low: 2 * i, High: 2 * i})
	}
	return s
}

// ring is an expression that is a part of itself, so many times.
func ring(kind, parts int) api.Expr {
	list := make([]api.Expr, parts)
	for i := range list {
		list[i] = api.Expr{Kind: kind, Parts: list}
	}
	return list[0]
}

// rule is one without Start and End.
func rule(name string, left api.Expr, breaks bool, right api.Expr) api.Rule {
	return api.Rule{Name: name, Left: left, Right: right, Break: breaks}
}

// made is rules without suppressions.
func made(otherwise bool, list ...api.Rule) api.Rules {
	return api.Rules{Rules: list, Suppress: -1, Else: otherwise}
}

// shownExpr tells nil lists and empty ones alike.
func shownExpr(e api.Expr) string {
	if expr.Check(e) == api.ErrMany {
		return fmt.Sprintf("a great one of the kind %d", e.Kind)
	}
	var text strings.Builder
	fmt.Fprintf(&text, "%d%v%q%v(", e.Kind, e.Set.Not, e.Set.Names, e.Set.Points)
	for _, part := range e.Parts {
		text.WriteString(shownExpr(part))
	}
	return text.String() + ")"
}

func shown(r api.Rules) string {
	var text strings.Builder
	for _, rule := range r.Rules {
		fmt.Fprintf(&text, "%q %v %s %v %s %v\n", rule.Name, rule.Start, shownExpr(rule.Left), rule.Break, shownExpr(rule.Right), rule.End)
	}
	fmt.Fprintf(&text, "%d %s %v", r.Suppress, shownExpr(of(r.Trail)), r.Else)
	return text.String()
}

// text is that of lines.
func text(lines ...string) string { return strings.Join(lines, "\n") }

// drawn draws rules, expressions and sets.
type drawn struct {
	*rand.Rand
}

func newDrawn(seed int64) drawn { return drawn{rand.New(rand.NewSource(seed))} }

func (d drawn) bool() bool { return d.Intn(2) == 0 }

func pick[T any](d drawn, list ...T) T { return list[d.Intn(len(list))] }

// set is one that may be, of few names and points.
func (d drawn) set() api.Set {
	s := api.Set{Not: d.Intn(4) == 0}
	for _, name := range []string{"A", "B", "Other", "else", "let"} {
		if d.Intn(4) == 0 {
			s.Names = append(s.Names, name)
		}
	}
	low := pick[int](d, 0, 0x1f, 0x20, 0x26, 'a', 'b', 0x7d, 0xd7fe, 0x10fffa)
	for d.Intn(2) == 0 && low < api.MaxPoint {
		high := min(low+d.Intn(3), api.MaxPoint)
		s.Points = append(s.Points, api.Range{Low: low, High: high})
		low = high + 2 + d.Intn(2)
	}
	return s
}

// expr is one that may be.
func (d drawn) expr(deep int) api.Expr {
	kind := pick(d, api.ExprEmpty, api.ExprSet, api.ExprSet, api.ExprSeq, api.ExprAlt, api.ExprStar, api.ExprPlus, api.ExprOpt)
	if deep == 0 || kind == api.ExprSet {
		return of(d.set())
	}
	switch kind {
	case api.ExprEmpty:
		return empty()
	case api.ExprSeq, api.ExprAlt:
		e := node(kind)
		for wanted := 2 + d.Intn(2); len(e.Parts) < wanted; {
			part := d.expr(deep - 1)
			if part.Kind != kind && (kind == api.ExprAlt || part.Kind != api.ExprEmpty) {
				e.Parts = append(e.Parts, part)
			}
		}
		return e
	}
	return node(kind, d.expr(deep-1))
}

// rules are some that may be.
func (d drawn) rules(deep int) api.Rules {
	r := made(d.bool())
	for _, name := range []string{"A", "let", "else", "x_1", "suppress"} {
		if d.bool() {
			r.Rules = append(r.Rules, api.Rule{Name: name, Left: d.expr(deep), Right: d.expr(deep), Start: d.bool(), End: d.bool(), Break: d.bool()})
		}
	}
	if d.bool() {
		r.Suppress = d.Intn(len(r.Rules) + 1)
		r.Trail = d.set()
	}
	return r
}

func expectCheck(t *testing.T, promise string, r api.Rules, want error) {
	t.Helper()
	if err := rules.Check(r); err != want {
		t.Errorf("%s: Check(%.300s) = %v, want %v", promise, shown(r), err, want)
	}
	if text, err := rules.Print(r); want != nil && (err != want || text != "") {
		t.Errorf("%s: Print(%.300s) = %.80q, %v, want %v", promise, shown(r), text, err, want)
	}
}

func TestP9_2_Names(t *testing.T) {
	a := class("A")
	for _, name := range []string{"A", "z", "let", "else", "Other", "a_", "A9_z", strings.Repeat("n", api.MaxName)} {
		expectCheck(t, "P9.2", made(true, rule(name, a, true, a)), nil)
	}
	for _, name := range []string{"", "9", "_", "_a", "A ", " A", "A-B", "A.B", "A:", "\u00e9", "A\u00e9", "A\xff", "A\x00", "@", "[", "`", "{", "A/", "\u212a", strings.Repeat("n", api.MaxName+1)} {
		expectCheck(t, "P9.2", made(true, rule(name, a, true, a)), api.ErrText)
		expectCheck(t, "P9.2: the second one's", made(true, rule("A", a, true, a), rule(name, a, true, a)), api.ErrText)
	}
	expectCheck(t, "P9.2: great and small letters", made(true, rule("A", a, true, a), rule("a", a, true, a)), nil)
	expectCheck(t, "P9.2: the first one's name again", made(true, rule("A", a, true, a), rule("B", a, true, a), rule("A", a, true, a)), api.ErrTwice)
}

// refused are expressions with the error that each has.
func refused() map[error]api.Expr {
	return map[error]api.Expr{
		api.ErrArg:  {},
		api.ErrForm: seq(class("A")),
		api.ErrMany: node(api.ExprSeq, slices.Repeat([]api.Expr{class("A")}, api.MaxExpr)...),
	}
}

func TestP9_2_Order(t *testing.T) {
	a := class("A")
	wrongTrail := api.Set{Names: []string{"B", "A"}}
	for err, bad := range refused() {
		for err2, bad2 := range refused() {
			if err != err2 {
				expectCheck(t, "P9.2: the left side first", made(true, rule("A", bad, true, bad2)), err)
				expectCheck(t, "P9.2: the first rule first", made(true, rule("A", a, true, bad), rule("B", bad2, true, a)), err)
			}
		}
		expectCheck(t, "P9.2: the right side", made(true, rule("A", a, true, bad)), err)
		expectCheck(t, "P9.2: the name ahead of the sides", made(true, rule("", bad, true, bad)), api.ErrText)
		expectCheck(t, "P9.2: twice ahead of the sides", made(true, rule("A", a, true, a), rule("A", bad, true, bad)), api.ErrTwice)
		expectCheck(t, "P9.2: a rule's sides ahead of the next one's name", made(true, rule("A", a, true, bad), rule("A", a, true, a)), err)
		expectCheck(t, "P9.2: the rules ahead of Suppress", api.Rules{Rules: []api.Rule{rule("A", a, true, bad)}, Suppress: -2, Trail: wrongTrail}, err)
	}
	expectCheck(t, "P9.2: Suppress ahead of Trail", api.Rules{Suppress: 1, Trail: many(api.MaxSpans + 1)}, api.ErrArg)
	expectCheck(t, "P9.2: Trail ahead of its being there", api.Rules{Suppress: -1, Trail: many(api.MaxSpans + 1)}, api.ErrMany)
	expectCheck(t, "P9.2: many ahead of all", api.Rules{Rules: make([]api.Rule, api.MaxRules+1), Suppress: -2}, api.ErrMany)
}

func TestP9_2_Suppress(t *testing.T) {
	a := class("A")
	two := []api.Rule{rule("A", a, true, a), rule("B", a, true, a)}
	for suppress, want := range map[int]error{-1 << 63: api.ErrArg, -2: api.ErrArg, -1: nil, 0: nil, 1: nil, 2: nil, 3: api.ErrArg, 1<<63 - 1: api.ErrArg} {
		expectCheck(t, "P9.2", api.Rules{Rules: two, Suppress: suppress}, want)
	}
	for _, trail := range []api.Set{{Not: true}, {Names: []string{"A"}}, {Points: []api.Range{{Low: 5, High: 5}}}} {
		expectCheck(t, "P9.2: a trail without suppressions", api.Rules{Rules: two, Suppress: -1, Trail: trail}, api.ErrArg)
		expectCheck(t, "P9.2: a trail", api.Rules{Rules: two, Suppress: 2, Trail: trail}, nil)
	}
	expectCheck(t, "P9.2: empty lists are like none", api.Rules{Rules: two, Suppress: -1, Trail: api.Set{Names: []string{}, Points: []api.Range{}}}, nil)
	for _, trail := range []api.Set{{Names: []string{"B", "A"}}, {Names: []string{"A", "A"}}, {Names: []string{""}}, {Points: []api.Range{{Low: 5, High: 4}}}, {Points: []api.Range{{Low: 1, High: 2}, {Low: 3, High: 4}}}, {Points: []api.Range{{Low: -1, High: 4}}}, {Points: []api.Range{{Low: 0, High: api.MaxPoint + 1}}}} {
		expectCheck(t, "P9.2: a trail that may not be", api.Rules{Rules: two, Suppress: 0, Trail: trail}, api.ErrArg)
	}
	expectCheck(t, "P9.2: the greatest trail", api.Rules{Trail: many(api.MaxSpans)}, nil)
	expectCheck(t, "P9.2: one past it", api.Rules{Trail: many(api.MaxSpans + 1)}, api.ErrMany)
}

func TestP9_2_MaxRules(t *testing.T) {
	most := made(true)
	for i := range api.MaxRules {
		most.Rules = append(most.Rules, rule(fmt.Sprintf("R%d", i), empty(), true, empty()))
	}
	expectCheck(t, "P9.2: as many rules as may be", most, nil)
	most.Rules = append(most.Rules, rule("More", empty(), true, empty()))
	expectCheck(t, "P9.2: one rule more", most, api.ErrMany)
	most.Rules[0].Name = ""
	expectCheck(t, "P9.2: many ahead of the names", most, api.ErrMany)
}

// checkAfterWords is Check, written down after the chapter.
func checkAfterWords(r api.Rules) error {
	isName := func(s string) bool {
		return s != "" && len(s) <= 32 && strings.Trim(s[:1], "0123456789_") != "" && strings.IndexFunc(s, func(c rune) bool {
			return !strings.ContainsRune("ABCDEFGHIJKLMNOPQRSTUVWXYZabcdefghijklmnopqrstuvwxyz0123456789_", c)
		}) < 0
	}
	var faults []error
	tell := func(is bool, err error) {
		if is && err != nil {
			faults = append(faults, err)
		}
	}
	tell(len(r.Rules) > 64, api.ErrMany)
	seen := map[string]bool{}
	for _, x := range r.Rules {
		tell(!isName(x.Name), api.ErrText)
		tell(seen[x.Name], api.ErrTwice)
		seen[x.Name] = true
		tell(true, expr.Check(x.Left))
		tell(true, expr.Check(x.Right))
	}
	tell(r.Suppress < -1 || r.Suppress > len(r.Rules), api.ErrArg)
	tell(true, expr.Check(of(r.Trail)))
	tell(r.Suppress == -1 && (r.Trail.Not || len(r.Trail.Names) > 0 || len(r.Trail.Points) > 0), api.ErrArg)
	if len(faults) == 0 {
		return nil
	}
	return faults[0]
}

// anyExpr is one that may be, or has some fault.
func (d drawn) anyExpr() api.Expr {
	if d.Intn(8) > 0 {
		return d.expr(2)
	}
	return pick(d, api.Expr{}, api.Expr{Kind: 8}, seq(class("A")), alt(), star(empty()), node(api.ExprStar), class("B", "A"), class(""), span(5, 4), ring(api.ExprStar, 1), ring(api.ExprAlt, 2))
}

// anyRules are some that may be, or have faults.
func (d drawn) anyRules() api.Rules {
	r := api.Rules{Suppress: d.Intn(6) - 2, Else: d.bool()}
	for range d.Intn(4) {
		name := pick(d, "A", "B", "C", "D", "E", "F", "else", "", "9")
		r.Rules = append(r.Rules, api.Rule{Name: name, Left: d.anyExpr(), Right: d.anyExpr(), Start: d.bool(), End: d.bool(), Break: d.bool()})
	}
	if d.bool() {
		r.Trail = d.anyExpr().Set
	}
	return r
}

func TestP9_2_Samples(t *testing.T) {
	d := newDrawn(92)
	told := map[error]int{}
	for range 20000 {
		r := d.anyRules()
		want := checkAfterWords(r)
		told[want]++
		if err := rules.Check(r); err != want {
			t.Fatalf("P9.2: Check(%s) = %v, want %v", shown(r), err, want)
		}
		text, err := rules.Print(r)
		if err != want || err != nil && text != "" {
			t.Fatalf("P9.3: Print(%s) = %q, %v, want %v", shown(r), text, err, want)
		}
	}
	for _, err := range []error{nil, api.ErrText, api.ErrTwice, api.ErrArg, api.ErrForm, api.ErrMany} {
		if told[err] < 100 {
			t.Errorf("P9.2: only %d samples with %v", told[err], err)
		}
	}
}
