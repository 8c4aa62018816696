package merge_test

import (
	"fmt"
	"math/rand"
	"slices"
	"strings"
	"testing"

	"caesura/alphabet"
	"caesura/api"
	"caesura/expr"
	"caesura/filter"
	"caesura/pair"
	"caesura/places"
	"caesura/propfile"
	"caesura/props"
	"caesura/rules"
	"caesura/units"
)

func list(n ...int) []int { return n }

func lists(n ...[]int) [][]int { return n }

// brief shows the beginning of what may be great.
func brief(x any) string {
	text := fmt.Sprint(x)
	return text[:min(len(text), 600)]
}

// equal holds machines against each other; nil and empty lists are the same.
func equal(x, y api.Machine) bool {
	return x.Start == y.Start && slices.EqualFunc(x.Next, y.Next, slices.Equal) && slices.EqualFunc(x.Out, y.Out, slices.Equal)
}

func same(p, q api.Pairing) bool {
	return equal(p.Left, q.Left) && equal(p.Right, q.Right) && slices.Equal(p.Breaks, q.Breaks) && p.Else == q.Else
}

// pointsOf are the points of a text's units.
func pointsOf(text string) []int {
	var points []int
	for _, u := range units.Split(text) {
		points = append(points, u.Point)
	}
	return points
}

func entriesOf(texts ...string) [][]int {
	var entries [][]int
	for _, text := range texts {
		entries = append(entries, pointsOf(text))
	}
	return entries
}

// world is rules and entries with the alphabet of their sets over some classes.
type world struct {
	r       api.Rules
	entries [][]int
	table   *props.Table
	a       *alphabet.Alphabet
}

// The classes and the rules are those of chapter 19's example.
const (
	classes = "0041..005A;Upper\n0061..007A;Lower\n002E;ATerm\n0020;Sp"
	example = "suppress Sp\nA: ATerm Sp* >< Lower\nB: ATerm >< Sp\nC: ATerm Sp+ >< Sp\nD: ATerm Sp* <>\nelse ><"
	most    = 2 * api.MaxStates
)

func tableOf(t *testing.T) *props.Table {
	t.Helper()
	p, _, err := propfile.Parse(classes)
	if err != nil {
		t.Fatal(err)
	}
	table, err := props.New(p)
	if err != nil {
		t.Fatal(err)
	}
	return table
}

func parsed(t *testing.T, text string) api.Rules {
	t.Helper()
	r, line, err := rules.Parse(text)
	if err != nil {
		t.Fatalf("line %d of %q: %v", line, text, err)
	}
	return r
}

func alphabetOf(t *testing.T, sets []api.Set) *alphabet.Alphabet {
	t.Helper()
	a, err := alphabet.New(tableOf(t), sets)
	if err != nil {
		t.Fatal(err)
	}
	return a
}

func worldOf(t *testing.T, text string, entries ...string) world {
	t.Helper()
	return worldWith(t, parsed(t, text), entriesOf(entries...))
}

func worldWith(t *testing.T, r api.Rules, entries [][]int) world {
	t.Helper()
	return world{r: r, entries: entries, table: tableOf(t), a: alphabetOf(t, alphabet.Sets(r, entries))}
}

func (w world) word(text string) []int { return w.a.Word(units.Split(text)) }

func (w world) kinds(text string) []api.Kind {
	names := w.table.Names()
	var kinds []api.Kind
	for _, u := range units.Split(text) {
		kinds = append(kinds, api.Kind{Class: names[w.table.Class(u.Point)], Point: u.Point})
	}
	return kinds
}

// beside is the filter of P17.3: the pairing of the rules alone, over the same alphabet, and the entries.
func (w world) beside(t *testing.T) *filter.Filter {
	t.Helper()
	p, err := pair.Of(w.r, nil, w.a, most)
	if err != nil {
		t.Fatal(err)
	}
	var trail []int
	if w.r.Suppress >= 0 {
		if trail, err = w.a.Letters(w.r.Trail); err != nil {
			t.Fatal(err)
		}
	}
	f, err := filter.New(p, w.a.Symbols(), w.r.Suppress, trail, w.entries)
	if err != nil {
		t.Fatal(err)
	}
	return f
}

func node(kind int, parts ...api.Expr) api.Expr { return api.Expr{Kind: kind, Parts: parts} }

func set(s api.Set) api.Expr { return api.Expr{Kind: api.ExprSet, Set: s} }

func point(n int) api.Set { return api.Set{Points: []api.Range{{Low: n, High: n}}} }

// row is so many times the same expression, one behind the other.
func row(n int, e api.Expr) api.Expr {
	switch n {
	case 0:
		return node(api.ExprEmpty)
	case 1:
		return e
	}
	return node(api.ExprSeq, slices.Repeat([]api.Expr{e}, n)...)
}

// ranging is a set of so many ranges, from 2 on every second point.
func ranging(n int) api.Set {
	var s api.Set
	for i := range n {
		s.Points = append(s.Points, api.Range{Low: 2 + 2*i, High: 2 + 2*i})
	}
	return s
}

// sided puts an expression on the left, from the text's start on, or on the right, to its end.
func sided(name string, e api.Expr, left, whole bool) api.Rule {
	if left {
		return api.Rule{Name: name, Left: e, Right: node(api.ExprEmpty), Start: whole}
	}
	return api.Rule{Name: name, Left: node(api.ExprEmpty), Right: e, End: whole}
}

// patternsBy is P17.2 once more: entries are put among the rules, wherever these go on.
func patternsBy(r api.Rules, entries [][]int) [][3]int {
	var all [][3]int
	for i := range len(r.Rules) + 1 {
		if i == r.Suppress {
			for e := range entries {
				for k := range entries[e] {
					all = append(all, [3]int{-1, e, k + 1})
				}
			}
		}
		if i < len(r.Rules) {
			all = append(all, [3]int{i, -1, 0})
		}
	}
	return all
}

// sidesBy are the two expressions of a pattern (layer 14).
func sidesBy(r api.Rules, entries [][]int, pattern [3]int) [2]api.Expr {
	if pattern[0] >= 0 {
		return [2]api.Expr{r.Rules[pattern[0]].Left, r.Rules[pattern[0]].Right}
	}
	entry, cut := entries[pattern[1]], pattern[2]
	if cut < len(entry) {
		return [2]api.Expr{expr.Word(entry[:cut]), expr.Word(entry[cut:])}
	}
	var parts []api.Expr
	for _, n := range entry {
		parts = append(parts, set(point(n)))
	}
	parts = append(parts, node(api.ExprStar, set(r.Trail)))
	return [2]api.Expr{node(api.ExprSeq, parts...), node(api.ExprEmpty)}
}

func entryError(entries [][]int, number int) error {
	entry := entries[number]
	for _, n := range entry {
		if n < 0 || n > 0x10FFFF || n >= 0xD800 && n <= 0xDFFF {
			return api.ErrArg
		}
	}
	switch {
	case len(entry) == 0:
		return api.ErrArg
	case len(entry) > 32:
		return api.ErrMany
	case slices.ContainsFunc(entries[:number], func(e []int) bool { return slices.Equal(e, entry) }):
		return api.ErrTwice
	}
	return nil
}

// toldBy is what P17.1 tells whatever the budget: the refusals of layer 14 ahead of the machines.
func toldBy(r api.Rules, entries [][]int, a *alphabet.Alphabet) error {
	if err := rules.Check(r); err != nil {
		return err
	}
	if r.Suppress >= 0 && len(entries) > 2000 {
		return api.ErrMany
	}
	for number := range entries {
		if err := entryError(entries, number); err != nil && r.Suppress >= 0 {
			return err
		}
	}
	for _, pattern := range patternsBy(r, entries) {
		for _, side := range sidesBy(r, entries, pattern) {
			if _, err := places.Of(side, a); err != nil {
				return err
			}
		}
	}
	return nil
}

// drawn draws rules, entries and texts.
type drawn struct{ *rand.Rand }

func newDrawn(seed int64) drawn { return drawn{rand.New(rand.NewSource(seed))} }

func (d drawn) one(of ...string) string { return of[d.Intn(len(of))] }

func (d drawn) set() string {
	return d.one("Upper", "Lower", "Lower", "ATerm", "Sp", "Other", "[^]", "[]", "[^ Lower]", "[^ Sp 'a']", "'a'", "'b'..'d'", "[Sp ATerm]", "[Upper 'a']")
}

func (d drawn) side() string {
	var b strings.Builder
	for range d.Intn(4) {
		if d.Intn(8) == 0 {
			b.WriteString(" | ")
			continue
		}
		b.WriteString(" " + d.set() + d.one("", "", "*", "+", "?"))
	}
	return b.String()
}

// rules is the text of some rules; nearly always they have a place for entries.
func (d drawn) rules() string {
	var lines []string
	for i := range d.Intn(6) {
		lines = append(lines, fmt.Sprint("R", i, ": ", d.one("", "", "^ "), d.side(), d.one(" >< ", " <> "), d.side(), d.one("", "", " $")))
	}
	if d.Intn(8) > 0 {
		lines = slices.Insert(lines, d.Intn(len(lines)+1), d.one("suppress", "suppress Sp", "suppress "+d.set()))
	}
	return strings.Join(append(lines, "else "+d.one("><", "<>", "<>")), "\n")
}

func (d drawn) text(most int, of ...string) string {
	var b strings.Builder
	for range d.Intn(most + 1) {
		b.WriteString(d.one(of...))
	}
	return b.String()
}

// entries are some that may be, no two the same.
func (d drawn) entries() []string {
	var texts []string
	for range d.Intn(6) {
		text := d.text(4, "a", "b", ".", " ", "A", "\u00e9")
		if text != "" && !slices.Contains(texts, text) {
			texts = append(texts, text)
		}
	}
	return texts
}

// textWith is of letters and of entries.
func (d drawn) textWith(entries []string) string {
	return d.text(10, slices.Concat(entries, []string{"a", "b", "z", "A", ".", " ", " ", "\u00e9", "\xff"})...)
}
