package explain_test

import (
	"fmt"
	"math"
	"slices"
	"strings"
	"testing"
	"time"

	"caesura/api"
	"caesura/explain"
	"caesura/expr"
	"caesura/rules"
	"caesura/units"
)

// sample is the rules of the chapter's examples.
const sample = "suppress Sp\nA: ATerm Sp* >< Lower\nB: ATerm >< Sp\nC: ATerm Sp+ >< Sp\nD: ATerm Sp* <>\nelse ><"

func parsed(t *testing.T, file string) api.Rules {
	t.Helper()
	r, line, err := rules.Parse(file)
	if err != nil {
		t.Fatalf("%q: line %d: %v", file, line, err)
	}
	return r
}

// kindsOf sees a text as the property file of chapter 19's example does.
func kindsOf(text string) []api.Kind {
	var kinds []api.Kind
	for _, u := range units.Split(text) {
		k := api.Kind{Class: api.Other, Point: u.Point}
		switch {
		case u.Point >= 'A' && u.Point <= 'Z':
			k.Class = "Upper"
		case u.Point >= 'a' && u.Point <= 'z':
			k.Class = "Lower"
		case u.Point == '.':
			k.Class = "ATerm"
		case u.Point == ' ':
			k.Class = "Sp"
		}
		kinds = append(kinds, k)
	}
	return kinds
}

// byRule, byEntry and byElse are reasons.
func byRule(place, rule, from, to int, breaks bool) api.Reason {
	return api.Reason{Place: place, Rule: rule, From: from, To: to, Entry: -1, Start: place, Break: breaks}
}

func byEntry(place, entry, start, to int) api.Reason {
	return api.Reason{Place: place, Rule: -1, From: start, To: to, Entry: entry, Start: start}
}

func byElse(place int, breaks bool) api.Reason {
	return api.Reason{Place: place, Rule: -1, From: place, To: place, Entry: -1, Start: place, Break: breaks}
}

func expectWhy(t *testing.T, promise string, r api.Rules, entries []string, text string, want api.Reason) {
	t.Helper()
	got, err := explain.Why(r, entries, kindsOf(text), want.Place)
	if got != want || err != nil {
		t.Errorf("%s: Why(%q, %q, %d) = %+v, %v, want %+v", promise, entries, text, want.Place, got, err, want)
	}
}

func expectNone(t *testing.T, r api.Rules, entries []string, text string, places ...int) {
	t.Helper()
	for _, place := range append(places, math.MinInt, math.MaxInt, -1, 0) {
		if got, err := explain.Why(r, entries, kindsOf(text), place); got != (api.Reason{}) || err != api.ErrArg {
			t.Errorf("P27.1: Why(%q, %d) = %+v, %v, want the zero reason, ErrArg", text, place, got, err)
		}
	}
}

func expectPrint(t *testing.T, r api.Rules, x api.Reason, want string, refusal error) {
	t.Helper()
	if got, err := explain.Print(r, x); got != want || err != refusal {
		t.Errorf("P27.3: Print(%+v) = %q, %v, want %q, %v", x, got, err, want, refusal)
	}
}

func expectIdle(t *testing.T, r api.Rules, entries, texts []string, want ...int) {
	t.Helper()
	var words [][]api.Kind
	for _, text := range texts {
		words = append(words, kindsOf(text))
	}
	if got := explain.Idle(r, entries, words); !slices.Equal(got, want) {
		t.Errorf("P27.4: Idle(%q) = %v, want %v", texts, got, want)
	}
}

func TestP27_1_Examples(t *testing.T) {
	r := parsed(t, sample)
	for _, c := range []struct {
		text string
		want api.Reason
		line string
	}{
		{"Hi. Ok", byElse(1, false), "1: no: else"}, {"Hi. Ok", byRule(3, 1, 2, 4, false), "3: no: B 2..4"}, {"Hi. Ok", byRule(4, 3, 2, 4, true), "4: yes: D 2..4"}, {"Hi. ok", byRule(4, 0, 2, 5, false), "4: no: A 2..5"}, {"Mr. Ok", byEntry(1, 0, 0, 3), "1: no: entry 0 0..3"}, {"Mr.  Ok", byEntry(5, 0, 0, 3), "5: no: entry 0 0..3"},
	} {
		expectWhy(t, "P27.1", r, []string{"Mr."}, c.text, c.want)
		expectPrint(t, r, c.want, c.line, nil)
	}
	expectNone(t, r, []string{"Mr."}, "Mr. Ok", 6, 7)
	expectIdle(t, r, []string{"Mr."}, []string{"Hi. Ok"}, 0, 2)
	expectIdle(t, r, []string{"Mr."}, nil, 0, 1, 2, 3)
	for _, x := range []api.Reason{{Place: 1, Rule: 4, Entry: -1}, {Place: 1}, {Rule: -1, Entry: -1}, {Place: 1, Rule: -1, Entry: -1, From: 3, To: 2}} {
		expectPrint(t, r, x, "", api.ErrArg)
	}
}

// No place is between two units of a word that has fewer than two.
func TestP27_1_NoPlaces(t *testing.T) {
	r := parsed(t, "A: <>\nsuppress\nelse <>")
	for _, text := range []string{"", "a", "\xff", "\u20ac"} {
		expectNone(t, r, []string{"a"}, text, 1, 2)
		if l := explain.All(r, []string{"a"}, kindsOf(text)); len(l) != 0 {
			t.Errorf("P27.2: All(%q) = %v", text, l)
		}
	}
	expectNone(t, r, nil, "ab", 2, 3, 1<<32+1)
	expectNone(t, api.Rules{}, nil, "ab", 2, 3)
}

// The least place from which on the left side matches, and the greatest up to which the right one does; the first rule, whatever it reaches.
func TestP27_1_Reach(t *testing.T) {
	for _, c := range []struct {
		file, text string
		want       []api.Reason
	}{
		{"A: Lower* >< Lower*\nelse <>", "Aab.c", []api.Reason{byRule(1, 0, 1, 3, false), byRule(2, 0, 1, 3, false), byRule(3, 0, 1, 3, false), byRule(4, 0, 4, 5, false)}},
		{"A: <>\nelse ><", "ab", []api.Reason{byRule(1, 0, 1, 1, true)}},
		{"A: ><\nB: Lower <> Lower\nelse <>", "ab", []api.Reason{byRule(1, 0, 1, 1, false)}},
		{"A: Lower ><\nB: Lower+ <>\nelse ><", "ab", []api.Reason{byRule(1, 0, 0, 1, false)}},
		{"A: [^]* <> [^]*\nelse ><", "a.\xffB", []api.Reason{byRule(1, 0, 0, 4, true), byRule(2, 0, 0, 4, true), byRule(3, 0, 0, 4, true)}},
		{"A: (Lower Lower)* <> (Lower Lower)+\nelse ><", "aaaaaaa", []api.Reason{byRule(1, 0, 1, 7, true), byRule(2, 0, 0, 6, true), byRule(3, 0, 1, 7, true), byRule(4, 0, 0, 6, true), byRule(5, 0, 1, 7, true), byElse(6, false)}},
		{"A: Lower? Upper? <> ('b' 'c' 'd' | 'b' | 'b' 'c' 'x')\nelse ><", "aBbcxbbcdB", []api.Reason{byElse(1, false), byRule(2, 0, 0, 5, true), byElse(3, false), byElse(4, false), byRule(5, 0, 4, 6, true), byRule(6, 0, 5, 9, true), byElse(7, false), byElse(8, false), byElse(9, false)}},
		{"A: 'a' Lower* 'b' <> Sp [^ Upper]* Sp\nelse ><", "aacab  . Bx ", []api.Reason{byElse(1, false), byElse(2, false), byElse(3, false), byElse(4, false), byRule(5, 0, 0, 9, true), byElse(6, false), byElse(7, false), byElse(8, false), byElse(9, false), byElse(10, false), byElse(11, false)}},
		{"A: Other >< Other\nB: \\u{0}..\\u{10ffff} <> [^ \\u{0}..\\u{10ffff}]\nelse ><", "\xff\xffa\xff", []api.Reason{byRule(1, 0, 0, 2, false), byElse(2, false), byRule(3, 1, 2, 4, true)}},
		{"skip Sp\nA: ATerm <> Upper\nelse ><", "a.  B  c", []api.Reason{byElse(1, false), byElse(2, false), byElse(3, false), byRule(4, 0, 1, 7, true), byElse(5, false), byElse(6, false), byElse(7, false)}},
	} {
		r := parsed(t, c.file)
		for _, want := range c.want {
			expectWhy(t, "P27.1", r, nil, c.text, want)
		}
		if got := explain.All(r, nil, kindsOf(c.text)); !slices.Equal(got, c.want) {
			t.Errorf("P27.2: All(%q, %q) = %+v", c.file, c.text, got)
		}
	}
}

// With Start the left side is all that stands ahead, with End the right one all behind.
func TestP27_1_Ends(t *testing.T) {
	r := parsed(t, "A: ^ Lower* >< Lower Lower $\nB: ^ Upper <>\nC: <> Sp $\nD: ^ >< $\nelse ><")
	for _, want := range []api.Reason{byElse(1, false), byRule(2, 0, 0, 4, false), byElse(3, false)} {
		expectWhy(t, "P27.1", r, nil, "abcd", want)
	}
	expectWhy(t, "P27.1", r, nil, "Ab", byRule(1, 1, 0, 1, true))
	expectWhy(t, "P27.1", r, nil, "AAb", byRule(1, 1, 0, 1, true))
	expectWhy(t, "P27.1", r, nil, "AAb", byElse(2, false))
	expectWhy(t, "P27.1", r, nil, "a. ", byRule(2, 2, 2, 3, true))
	expectWhy(t, "P27.1", r, nil, "a.  ", byElse(2, false))
	expectWhy(t, "P27.1", r, nil, "xab", byRule(1, 0, 0, 3, false))
}

func TestP27_1_Entries(t *testing.T) {
	r := parsed(t, sample)
	for _, c := range []struct {
		entries []string
		text    string
		want    api.Reason
	}{
		{[]string{"", "Mr.", "Mr", "r."}, "Mr. Ok", byEntry(1, 1, 0, 3)}, {[]string{"", "Mr.", "Mr", "r."}, "xr. Ok", byEntry(3, 3, 1, 3)}, {[]string{"", "Mr.", "Mr", "r."}, "Mr Ok", byEntry(3, 2, 0, 2)},
		{[]string{"r.", "Mr."}, "Mr. Ok", byEntry(1, 1, 0, 3)}, {[]string{"r.", "Mr."}, "Mr. Ok", byEntry(2, 0, 1, 3)}, {[]string{"r.", "Mr."}, "Mr. Ok", byEntry(3, 0, 1, 3)}, {[]string{"r.", "Mr."}, "Mr. Ok", byEntry(4, 0, 1, 3)}, {[]string{"r.", "Mr."}, "Mr. Ok", byElse(5, false)},
		{[]string{"aa", "aa"}, "aaaa", byEntry(1, 0, 0, 2)}, {[]string{"aa"}, "aaaa", byEntry(2, 0, 0, 2)}, {[]string{"aa"}, "aaaa", byEntry(3, 0, 1, 3)}, {[]string{"a."}, "a.a. B", byEntry(2, 0, 0, 2)}, {[]string{"a."}, "a.a. B", byEntry(3, 0, 2, 4)}, {[]string{"a."}, "a.a. B", byEntry(5, 0, 2, 4)},
		{[]string{"a b"}, "a b c", byEntry(1, 0, 0, 3)}, {[]string{"a b"}, "a b c", byEntry(2, 0, 0, 3)}, {[]string{"a b"}, "a b c", byEntry(3, 0, 0, 3)}, {[]string{"a b"}, "a b c", byEntry(4, 0, 0, 3)}, {[]string{"a "}, "a  . B", byEntry(3, 0, 0, 2)}, {[]string{"a "}, "a  . B", byRule(5, 3, 3, 5, true)},
		{[]string{" ", "  "}, ".   B", byEntry(3, 0, 1, 2)}, {[]string{"  ", " "}, ".   B", byEntry(3, 0, 1, 3)}, {[]string{"  ", " "}, ".   B", byEntry(2, 0, 1, 3)}, {[]string{" "}, ".   B", byRule(1, 1, 0, 2, false)},
		{[]string{"\xff"}, "\xff\xff. B", byEntry(1, 0, 0, 1)}, {[]string{"\xff"}, "\x80", byElse(1, false)}, {[]string{"\xff."}, "\xc3. B", byEntry(3, 0, 0, 2)}, {[]string{"\u00e9."}, "\u00e9. B", byEntry(3, 0, 0, 2)}, {[]string{"\u00e9."}, "e\u0301. B", byRule(4, 3, 2, 4, true)}, {[]string{"\U0001F600."}, "\U0001F600. B", byEntry(3, 0, 0, 2)},
		{[]string{"mr."}, "Mr. Ok", byRule(4, 3, 2, 4, true)}, {[]string{"Mr. Ok."}, "Mr. Ok", byRule(4, 3, 2, 4, true)}, {[]string{"Mr. Ok"}, "Mr. Ok", byEntry(5, 0, 0, 6)}, {[]string{strings.Repeat("ab.", 50)}, "x" + strings.Repeat("ab.", 50) + " B", byEntry(152, 0, 1, 151)},
	} {
		if kinds := kindsOf(c.text); c.want.Place < len(kinds) {
			expectWhy(t, "P27.1", r, c.entries, c.text, c.want)
		}
	}
}

// Rules ahead of the suppressions decide ahead of them; a Suppress that is out of its place counts as the next one that is in it.
func TestP27_1_Suppress(t *testing.T) {
	r := parsed(t, "A: 'a' <> 'b'\nsuppress 'a'\nB: <> 'c'\nelse <>")
	expectWhy(t, "P27.1", r, []string{"ab"}, "abab", byRule(1, 0, 0, 2, true))
	expectWhy(t, "P27.1", r, []string{"aa"}, "aac", byEntry(2, 0, 0, 2))
	expectWhy(t, "P27.1", r, []string{"aa"}, "aaac", byEntry(3, 0, 0, 2))
	expectWhy(t, "P27.1", r, []string{"aa"}, "bac", byRule(2, 1, 2, 3, true))
	expectWhy(t, "P27.1", r, []string{"aa"}, "bad", byElse(2, true))
	for suppress, want := range map[int][]api.Reason{
		math.MinInt: {byRule(1, 0, 0, 2, true), byRule(2, 1, 2, 3, true)}, -2: {byRule(1, 0, 0, 2, true), byRule(2, 1, 2, 3, true)}, -1: {byRule(1, 0, 0, 2, true), byRule(2, 1, 2, 3, true)},
		0: {byEntry(1, 0, 0, 3), byEntry(2, 0, 0, 3)}, 1: {byRule(1, 0, 0, 2, true), byEntry(2, 0, 0, 3)},
		2: {byRule(1, 0, 0, 2, true), byRule(2, 1, 2, 3, true)}, 3: {byRule(1, 0, 0, 2, true), byRule(2, 1, 2, 3, true)}, math.MaxInt: {byRule(1, 0, 0, 2, true), byRule(2, 1, 2, 3, true)},
	} {
		r.Suppress = suppress
		if got := explain.All(r, []string{"abc"}, kindsOf("abc")); !slices.Equal(got, want) {
			t.Errorf("P27.1: Suppress %d: %+v, want %+v", suppress, got, want)
		}
		if got := explain.All(r, []string{"xyz"}, kindsOf("xyz")); suppress < 0 && got[0] != byElse(1, true) || suppress >= 0 && got[0] != byEntry(1, 0, 0, 3) {
			t.Errorf("P27.1: Suppress %d: %+v", suppress, got)
		}
	}
}

// Rules that Parse would never answer: what may not be matches nothing, and a trail that may not be holds what it holds.
func TestP27_1_AnyRules(t *testing.T) {
	lower, empty := api.Expr{Kind: api.ExprSet, Set: api.Set{Names: []string{"Lower"}}}, api.Expr{Kind: api.ExprEmpty}
	ring := api.Expr{Kind: api.ExprStar, Parts: make([]api.Expr, 1)}
	ring.Parts[0] = ring
	many := api.Expr{Kind: api.ExprAlt, Parts: slices.Repeat([]api.Expr{lower}, api.MaxExpr)}
	for _, bad := range []api.Expr{{}, {Kind: 8}, {Kind: api.ExprSeq}, {Kind: api.ExprSeq, Parts: []api.Expr{lower}}, {Kind: api.ExprSeq, Parts: []api.Expr{empty, lower}}, {Kind: api.ExprAlt}, {Kind: api.ExprStar}, {Kind: api.ExprOpt, Parts: []api.Expr{lower, lower}}, {Kind: api.ExprEmpty, Set: api.Set{Not: true}}, {Kind: api.ExprSet, Set: api.Set{Names: []string{"Lower", "Lower"}}}, {Kind: api.ExprSet, Set: api.Set{Points: []api.Range{{Low: 9, High: 5}}}}, ring, many} {
		for _, ends := range []bool{false, true} {
			for _, one := range []api.Rule{{Left: bad, Right: empty}, {Left: empty, Right: bad}, {Left: bad, Right: bad}} {
				one.Start, one.End = ends, ends
				r := api.Rules{Rules: []api.Rule{one, {Left: lower, Right: empty}}, Suppress: -9, Else: true}
				if got := explain.All(r, nil, kindsOf("aB.")); !slices.Equal(got, []api.Reason{byRule(1, 1, 0, 1, false), byElse(2, true)}) {
					t.Errorf("P27.1: what may not be matches nothing: %v", got)
				}
			}
		}
	}
	r := api.Rules{Trail: api.Set{Names: []string{"Sp", "Lower", "Lower"}, Points: []api.Range{{Low: 9, High: 5}, {Low: '.', High: '.'}, {Low: '.', High: '/'}}}, Else: true}
	expectWhy(t, "P27.1", r, []string{"A"}, "A .b/B", byEntry(5, 0, 0, 1))
	expectWhy(t, "P27.1", r, []string{"A"}, "A .B/B", byElse(4, true))
	r.Trail.Not = true
	expectWhy(t, "P27.1", r, []string{"A"}, "ABC\xffB.", byEntry(5, 0, 0, 1))
	expectWhy(t, "P27.1", r, []string{"A"}, "ABC.BB", byElse(5, true))
	for range 200 {
		r.Rules = append(r.Rules, api.Rule{Left: api.Expr{Kind: api.ExprSet}, Right: empty})
	}
	r.Rules = append(r.Rules, api.Rule{Left: lower, Right: empty, Break: true})
	expectWhy(t, "P27.1: more rules than may be", r, nil, "aB", byRule(1, 200, 0, 1, true))
	word := []api.Kind{{Class: "Lower", Point: math.MaxInt}, {Class: "", Point: math.MinInt}, {Class: "Lower", Point: -2}}
	if got := explain.All(r, []string{"\xff"}, word); !slices.Equal(got, []api.Reason{byRule(1, 200, 0, 1, true), byElse(2, true)}) {
		t.Errorf("P27.1: units of any point: %+v", got)
	}
}

// Sides as great as may be: nothing more can be written behind them.
func TestP27_1_Greatest(t *testing.T) {
	lower, upper := api.Expr{Kind: api.ExprSet, Set: api.Set{Names: []string{"Lower"}}}, api.Expr{Kind: api.ExprSet, Set: api.Set{Names: []string{"Upper"}}}
	deep := lower
	for range 127 {
		deep = api.Expr{Kind: api.ExprStar, Parts: []api.Expr{deep}}
	}
	row := api.Expr{Kind: api.ExprSeq, Parts: append(slices.Repeat([]api.Expr{{Kind: api.ExprOpt, Parts: []api.Expr{lower}}}, (api.MaxExpr-2)/2), upper)}
	wide := api.Expr{Kind: api.ExprAlt, Parts: append(slices.Repeat([]api.Expr{lower}, api.MaxExpr-2), upper)}
	spans := upper
	for i := range api.MaxSpans - 1 {
		spans.Set.Points = append(spans.Set.Points, api.Range{Low: 8 * i, High: 8 * i})
	}
	for _, e := range []api.Expr{deep, row, wide, spans} {
		if expr.Check(e) != nil {
			t.Fatalf("%d nodes: %v", expr.Size(e), expr.Check(e))
		}
		for _, one := range []api.Rule{{Left: e, Right: upper}, {Left: upper, Right: e}, {Left: e, Right: e, Break: true}, {Left: e, Right: upper, Start: true}, {Left: upper, Right: e, End: true}} {
			r := api.Rules{Rules: []api.Rule{one}, Suppress: -1}
			for _, text := range []string{"aabAaB", "ABaab", "abABA", "AAA.", "aA@HA"} {
				sameAsDefined(t, r, nil, kindsOf(text))
			}
		}
	}
}

func TestP27_2_All(t *testing.T) {
	r := parsed(t, sample)
	entries := []string{"Mr.", "St."}
	for _, text := range []string{"Mr. Ok", "Hi. Ok. ok. St. B", "ab", "...", ". . A", "\xff. \xc3"} {
		kinds := kindsOf(text)
		all := explain.All(r, entries, kinds)
		if len(all) != len(kinds)-1 {
			t.Errorf("P27.2: All(%q): %d reasons", text, len(all))
		}
		for i, x := range all {
			if why, err := explain.Why(r, entries, kinds, i+1); why != x || err != nil || x.Place != i+1 {
				t.Errorf("P27.2: All(%q) at %d: %+v, Why: %+v, %v", text, i, x, why, err)
			}
		}
	}
	if got := explain.All(api.Rules{}, nil, nil); len(got) != 0 {
		t.Errorf("P27.2: %v", got)
	}
}

func TestP27_3_Print(t *testing.T) {
	r := parsed(t, sample)
	for _, c := range []struct {
		x    api.Reason
		want string
	}{
		{byRule(1, 0, 0, 0, false), "1: no: A 0..0"}, {byRule(10, 3, 9, 12, true), "10: yes: D 9..12"}, {byEntry(1, 0, 0, 3), "1: no: entry 0 0..3"}, {byEntry(7, 1999, 5, 5), "7: no: entry 1999 5..5"}, {byElse(1, true), "1: yes: else"}, {byElse(120, false), "120: no: else"},
		{api.Reason{Place: 1, Rule: -1, Entry: 4, From: 2, To: 3, Break: true}, "1: yes: entry 4 2..3"}, {api.Reason{Place: 1, Rule: -1, Entry: -1, From: 7, To: 9, Start: -5}, "1: no: else"}, {api.Reason{Place: 1, Rule: 2, Entry: -1, From: 7, To: 9, Start: math.MinInt}, "1: no: C 7..9"}, {api.Reason{Place: 9, Rule: 2, Entry: -1, From: 1, To: 2, Start: math.MaxInt, Break: true}, "9: yes: C 1..2"},
		{api.Reason{Place: math.MaxInt, Rule: -1, Entry: math.MaxInt, From: math.MaxInt, To: math.MaxInt}, "9223372036854775807: no: entry 9223372036854775807 9223372036854775807..9223372036854775807"},
	} {
		expectPrint(t, r, c.x, c.want, nil)
	}
	expectPrint(t, parsed(t, "else ><"), byElse(3, true), "3: yes: else", nil)
	long := strings.Repeat("N", api.MaxName)
	expectPrint(t, parsed(t, long+": ><\nelse ><"), byRule(3, 0, 3, 3, false), "3: no: "+long+" 3..3", nil)
	expectPrint(t, parsed(t, "entry: ><\nelse: <>\nelse ><"), byRule(3, 0, 3, 3, false), "3: no: entry 3..3", nil)
	expectPrint(t, parsed(t, "entry: ><\nelse: <>\nelse ><"), byRule(3, 1, 3, 4, true), "3: yes: else 3..4", nil)
}

func TestP27_3_Refusals(t *testing.T) {
	r := parsed(t, sample)
	least, great := math.MinInt, math.MaxInt
	for _, x := range []api.Reason{
		{Place: 0, Rule: -1, Entry: -1}, {Place: -1, Rule: -1, Entry: -1}, {Place: least, Rule: -1, Entry: -1}, {Place: 1, Rule: -1, Entry: -1, From: -1}, {Place: 1, Rule: -1, Entry: -1, From: least, To: least}, {Place: 1, Rule: -1, Entry: -1, From: 3, To: 2}, {Place: 1, Rule: -1, Entry: -1, From: 0, To: -1}, {Place: 1, Rule: -1, Entry: -1, From: 1},
		{Place: 1, Rule: -2, Entry: -1}, {Place: 1, Rule: least, Entry: -1}, {Place: 1, Rule: 4, Entry: -1}, {Place: 1, Rule: great, Entry: -1}, {Place: 1, Rule: -1, Entry: -2}, {Place: 1, Rule: -1, Entry: least}, {Place: 1, Rule: 0, Entry: -2}, {Place: 1, Rule: 0, Entry: 0}, {Place: 1, Rule: 3, Entry: 7}, {},
	} {
		expectPrint(t, r, x, "", api.ErrArg)
	}
	expectPrint(t, api.Rules{}, byRule(1, 0, 1, 1, false), "", api.ErrArg)
	good, bad := byRule(1, 0, 0, 1, false), api.Reason{Place: -1, Rule: 99, Entry: 99}
	for refusal, spoil := range map[error]func(r *api.Rules){
		api.ErrTwice: func(r *api.Rules) { r.Rules[2].Name = "A" },
		api.ErrText:  func(r *api.Rules) { r.Rules[2].Name = "" },
		api.ErrMany:  func(r *api.Rules) { r.Rules = slices.Repeat(r.Rules, 20) },
		api.ErrForm:  func(r *api.Rules) { r.Rules[3].Right = api.Expr{Kind: api.ExprSeq} },
		api.ErrArg:   func(r *api.Rules) { r.Suppress = 5 },
	} {
		spoilt := parsed(t, sample)
		spoil(&spoilt)
		if rules.Check(spoilt) != refusal {
			t.Fatal(rules.Check(spoilt))
		}
		expectPrint(t, spoilt, good, "", refusal)
		expectPrint(t, spoilt, bad, "", refusal)
	}
}

func TestP27_4_Idle(t *testing.T) {
	r := parsed(t, sample)
	for _, c := range []struct {
		texts []string
		want  []int
	}{
		{[]string{"Hi. Ok", "a.b"}, []int{2}}, {[]string{"A.  b", "C. D"}, nil}, {[]string{"Mr. Ok"}, []int{0, 1, 2, 3}}, {[]string{"", "x"}, []int{0, 1, 2, 3}}, {[]string{"."}, []int{0, 1, 2, 3}}, {[]string{"..", "..", "x"}, []int{0, 1, 2}}, {[]string{"", ". a", ""}, []int{2, 3}}, {[]string{"Mr. a"}, []int{0, 1, 2, 3}},
	} {
		expectIdle(t, r, []string{"Mr."}, c.texts, c.want...)
	}
	expectIdle(t, r, nil, []string{"Mr. a"}, 2, 3)
	expectIdle(t, parsed(t, "else <>"), nil, []string{"ab"})
	expectIdle(t, parsed(t, "A: ><\nB: ><\nC: <>\nelse <>"), nil, []string{"ab", "cd"}, 1, 2)
	expectIdle(t, parsed(t, "A: Upper ><\nsuppress\nB: ><\nelse <>"), []string{"ab", "Ab"}, []string{"ab", "Ab"}, 1)
}

// A long text under rules like those for sentences, and under rules that reach far.
func TestP27_8_Long(t *testing.T) {
	for _, file := range []string{sample, "let T = [ATerm 'x']\nA: ATerm Other* Sp* >< [^ ATerm Upper]* Lower\nskip 'y'\nB: >< Lower\nC: [^ Upper] (Lower Lower)* >< Upper\nsuppress Sp\nD: T Sp* <>\nE: [^]* >< [^]\nF: [^] <> [^]*\nelse ><", "A: [^]* 'z' <>\nB: <> Lower* 'z'\nelse ><", "A: (Lower | Sp)* Sp >< Sp (Lower | Sp | ATerm)*\nelse <>"} {
		r := parsed(t, file)
		text := strings.Repeat("Mr. Fox came,  he saw. he xylophones. So  it was x Y. ", 60)
		kinds := kindsOf(text)
		entries := []string{"Mr.", "Dr.", "it was"}
		begun := time.Now()
		all := explain.All(r, entries, kinds)
		idle := explain.Idle(r, entries, [][]api.Kind{kinds})
		if took := time.Since(begun); took > 20*time.Second {
			t.Errorf("P27.8: %d units took %v", len(kinds), took)
		}
		sameBreaks(t, r, entries, kinds, all)
		for _, number := range idle {
			if slices.ContainsFunc(all, func(x api.Reason) bool { return x.Rule == number }) {
				t.Errorf("P27.4: rule %d is not idle", number)
			}
		}
	}
}

// Calls with anything end.
func TestP27_8_Anything(t *testing.T) {
	d := newDrawn(278)
	for range 2000 {
		r := d.rules(t)
		r.Suppress = d.Intn(9) - 4
		if d.Intn(3) == 0 && len(r.Rules) > 0 {
			r.Rules[0].Left = api.Expr{Kind: d.Intn(10) - 1, Parts: []api.Expr{r.Rules[0].Right, {}}[:d.Intn(3)]}
		}
		x := api.Reason{Place: d.Intn(5) - 1, Rule: d.Intn(5) - 2, From: d.Intn(4) - 1, To: d.Intn(4) - 1, Entry: d.Intn(4) - 2, Start: d.Intn(3) - 1, Break: d.Intn(2) == 0}
		line, err := explain.Print(r, x)
		fault := rules.Check(r)
		if (line == "") != (err != nil) || fault != nil && err != fault {
			t.Fatalf("P27.3: %+v, %+v: %q, %v", r, x, line, err)
		}
		may := x.Place >= 1 && x.From >= 0 && x.From <= x.To && x.Rule >= -1 && x.Rule < len(r.Rules) && x.Entry >= -1 && (x.Rule < 0 || x.Entry < 0)
		if fault == nil && may != (err == nil) {
			t.Fatalf("P27.3: %+v of %d rules: %q, %v", x, len(r.Rules), line, err)
		}
		if want := defined(r, []string{"a", "\xff", ""}, kindsOf("a\xff")); fmt.Sprint(explain.All(r, []string{"a", "\xff", ""}, kindsOf("a\xff"))) != fmt.Sprint(want) {
			t.Fatalf("P27.1: %+v: want %+v", r, want)
		}
	}
}
