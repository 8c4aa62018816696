package pair_test

import (
	"fmt"
	"math/rand"
	"slices"
	"strings"
	"testing"

	"caesura/alphabet"
	"caesura/api"
	"caesura/expr"
	"caesura/machine"
	"caesura/minimal"
	"caesura/places"
	"caesura/propfile"
	"caesura/props"
	"caesura/rules"
	"caesura/units"
)

// brief shows the beginning of what may be great.
func brief(x any) string {
	text := fmt.Sprint(x)
	return text[:min(len(text), 600)]
}

func list(n ...int) []int { return n }

func lists(n ...[]int) [][]int { return n }

// equal holds machines against each other; nil and empty lists are the same.
func equal(x, y api.Machine) bool {
	return x.Start == y.Start && slices.EqualFunc(x.Next, y.Next, slices.Equal) && slices.EqualFunc(x.Out, y.Out, slices.Equal)
}

func same(p, q api.Pairing) bool {
	return equal(p.Left, q.Left) && equal(p.Right, q.Right) && slices.Equal(p.Breaks, q.Breaks) && p.Else == q.Else
}

// pointsOf are the points of a text's units.
func pointsOf(text string) []int {
	var points []int
	for _, u := range units.Split(text) {
		points = append(points, u.Point)
	}
	return points
}

func entriesOf(texts ...string) [][]int {
	var entries [][]int
	for _, text := range texts {
		entries = append(entries, pointsOf(text))
	}
	return entries
}

// world is rules and entries with the alphabet of their sets over some classes.
type world struct {
	r       api.Rules
	entries [][]int
	table   *props.Table
	a       *alphabet.Alphabet
}

// The classes are those of chapter 19's example.
const classes = "0041..005A;Upper\n0061..007A;Lower\n002E;ATerm\n0020;Sp"

func tableOf(t *testing.T, property string) *props.Table {
	t.Helper()
	p, _, err := propfile.Parse(property)
	if err != nil {
		t.Fatal(err)
	}
	table, err := props.New(p)
	if err != nil {
		t.Fatal(err)
	}
	return table
}

func parsed(t *testing.T, text string) api.Rules {
	t.Helper()
	r, line, err := rules.Parse(text)
	if err != nil {
		t.Fatalf("line %d of %q: %v", line, text, err)
	}
	return r
}

func alphabetOf(t *testing.T, table *props.Table, sets []api.Set) *alphabet.Alphabet {
	t.Helper()
	a, err := alphabet.New(table, sets)
	if err != nil {
		t.Fatal(err)
	}
	return a
}

func worldOf(t *testing.T, text string, entries ...string) world {
	t.Helper()
	return worldWith(t, parsed(t, text), entriesOf(entries...))
}

func worldWith(t *testing.T, r api.Rules, entries [][]int) world {
	t.Helper()
	w := world{r: r, entries: entries, table: tableOf(t, classes)}
	w.a = alphabetOf(t, w.table, alphabet.Sets(r, entries))
	return w
}

func (w world) word(text string) []int { return w.a.Word(units.Split(text)) }

func (w world) kinds(text string) []api.Kind {
	names := w.table.Names()
	var kinds []api.Kind
	for _, u := range units.Split(text) {
		kinds = append(kinds, api.Kind{Class: names[w.table.Class(u.Point)], Point: u.Point})
	}
	return kinds
}

// numbered are the numbered rules, as the chapter says them.
func (w world) numbered() []api.Rule {
	var all []api.Rule
	for i := range len(w.r.Rules) + 1 {
		if i == w.r.Suppress {
			for _, entry := range w.entries {
				for k := 1; k < len(entry); k++ {
					all = append(all, api.Rule{Left: expr.Word(entry[:k]), Right: expr.Word(entry[k:])})
				}
				all = append(all, api.Rule{Left: trailed(entry, w.r.Trail), Right: api.Expr{Kind: api.ExprEmpty}})
			}
		}
		if i < len(w.r.Rules) {
			all = append(all, w.r.Rules[i])
		}
	}
	return all
}

func trailed(entry []int, trail api.Set) api.Expr {
	star := node(api.ExprStar, api.Expr{Kind: api.ExprSet, Set: trail})
	if word := expr.Word(entry); word.Kind == api.ExprSeq {
		return node(api.ExprSeq, append(word.Parts, star)...)
	}
	return node(api.ExprSeq, expr.Word(entry), star)
}

// expected is the pairing after the chapter's words: the right sides are turned round ahead of their places.
func (w world) expected(t *testing.T) api.Pairing {
	t.Helper()
	var left, right []api.Pattern
	p := api.Pairing{Else: w.r.Else}
	for _, rule := range w.numbered() {
		left = append(left, api.Pattern{Positions: w.positions(t, rule.Left), Anchored: rule.Start})
		right = append(right, api.Pattern{Positions: w.positions(t, expr.Reverse(rule.Right)), Anchored: rule.End})
		p.Breaks = append(p.Breaks, rule.Break)
	}
	p.Left, p.Right = w.least(t, left), w.least(t, right)
	return p
}

func (w world) positions(t *testing.T, e api.Expr) api.Positions {
	t.Helper()
	p, err := places.Of(e, w.a)
	if err != nil {
		t.Fatal(err)
	}
	return p
}

func (w world) least(t *testing.T, l []api.Pattern) api.Machine {
	t.Helper()
	m, err := machine.Build(l, w.a.Symbols(), api.MaxStates)
	if err != nil {
		t.Fatal(err)
	}
	m, err = minimal.Of(m, w.a.Symbols())
	if err != nil {
		t.Fatal(err)
	}
	return m
}

// leftFits: the page's 'Deciding a place', what stands ahead.
func leftFits(rule api.Rule, kinds []api.Kind, i int) bool {
	for from := range i + 1 {
		if (from == 0 || !rule.Start) && expr.Match(rule.Left, kinds[from:i]) {
			return true
		}
	}
	return false
}

func rightFits(rule api.Rule, kinds []api.Kind, i int) bool {
	for to := i; to <= len(kinds); to++ {
		if (to == len(kinds) || !rule.End) && expr.Match(rule.Right, kinds[i:to]) {
			return true
		}
	}
	return false
}

// decided is the number of the first of the rules that fits, at each place between two units.
func decided(all []api.Rule, kinds []api.Kind) []int {
	var numbers []int
	for i := 1; i < len(kinds); i++ {
		fits := func(rule api.Rule) bool { return leftFits(rule, kinds, i) && rightFits(rule, kinds, i) }
		numbers = append(numbers, slices.IndexFunc(all, fits))
	}
	return numbers
}

func told(m api.Machine, word []int) []int {
	at := m.Start
	for _, symbol := range word {
		at = m.Next[at][symbol]
	}
	return m.Out[at]
}

func turned(l []int) []int {
	l = slices.Clone(l)
	slices.Reverse(l)
	return l
}

func node(kind int, parts ...api.Expr) api.Expr { return api.Expr{Kind: kind, Parts: parts} }

func set(s api.Set) api.Expr { return api.Expr{Kind: api.ExprSet, Set: s} }

// row is so many times the same expression, one behind the other; the empty word, if that is 0.
func row(n int, e api.Expr) api.Expr {
	switch n {
	case 0:
		return node(api.ExprEmpty)
	case 1:
		return e
	}
	return node(api.ExprSeq, slices.Repeat([]api.Expr{e}, n)...)
}

// rule is one without Start and End, of no boundary.
func rule(name string, left, right api.Expr) api.Rule {
	return api.Rule{Name: name, Left: left, Right: right}
}

// ranging is a set of so many ranges, from 2 on every second point.
func ranging(n int) api.Set {
	var s api.Set
	for i := range n {
		s.Points = append(s.Points, api.Range{Low: 2 + 2*i, High: 2 + 2*i})
	}
	return s
}

// drawn draws rules, entries and texts.
type drawn struct{ *rand.Rand }

func newDrawn(seed int64) drawn { return drawn{rand.New(rand.NewSource(seed))} }

func (d drawn) one(of ...string) string { return of[d.Intn(len(of))] }

func (d drawn) set() string {
	return d.one("Upper", "Lower", "Lower", "ATerm", "Sp", "Other", "[^]", "[]", "[^ Lower]", "[^ Sp 'a']", "'a'", "'b'..'d'", "[Sp ATerm]", "[Upper 'a']")
}

func (d drawn) side(deep int) string {
	var b strings.Builder
	for range d.Intn(4) {
		switch n := d.Intn(8); {
		case n == 0 && deep > 0:
			b.WriteString("(" + d.side(deep-1) + ")")
		case n == 1:
			b.WriteString(" | ")
			continue
		default:
			b.WriteString(" " + d.set())
		}
		if d.Intn(3) == 0 {
			b.WriteString(d.one("*", "+", "?"))
		}
	}
	return b.String()
}

// rules is the text of some rules; nearly always they have a place for entries.
func (d drawn) rules() string {
	var lines []string
	if d.Intn(4) == 0 {
		lines = append(lines, "skip "+d.set())
	}
	for i := range d.Intn(6) {
		lines = append(lines, fmt.Sprint("R", i, ": ", d.one("", "", "^ "), d.side(2), d.one(" >< ", " <> "), d.side(2), d.one("", "", " $")))
	}
	if d.Intn(8) > 0 {
		lines = slices.Insert(lines, d.Intn(len(lines)+1), d.one("suppress", "suppress Sp", "suppress "+d.set()))
	}
	return strings.Join(append(lines, "else "+d.one("><", "<>")), "\n")
}

func (d drawn) text(most int, of ...string) string {
	var b strings.Builder
	for range d.Intn(most + 1) {
		b.WriteString(d.one(of...))
	}
	return b.String()
}

// entries are some that may be, no two the same.
func (d drawn) entries() []string {
	var texts []string
	for range d.Intn(5) {
		text := d.text(4, "a", "b", ".", " ", "A", "\u00e9")
		if text != "" && !slices.Contains(texts, text) {
			texts = append(texts, text)
		}
	}
	return texts
}

func (d drawn) anyText(most int) string {
	return d.text(most, "a", "a", "b", "c", "z", "A", "B", ".", ".", " ", " ", "\u00e9", "\xff", "\U00010000")
}
