package explain_test

import (
	"fmt"
	"math/rand"
	"slices"
	"strings"
	"testing"

	"caesura/api"
	"caesura/breaker"
	"caesura/bundle"
	"caesura/explain"
	"caesura/expr"
	"caesura/locale"
	"caesura/rules"
	"caesura/standard"
	"caesura/units"
)

// reaches is how far a rule's sides reach from a place, after the page's 'Deciding a place': every word is tried, the shortest first.
func reaches(one api.Rule, kinds []api.Kind, place int) (from, to int, fits bool) {
	left, right := false, false
	for i := place; i >= 0; i-- {
		if (i == 0 || !one.Start) && expr.Match(one.Left, kinds[i:place]) {
			from, left = i, true
		}
	}
	for i := place; i <= len(kinds); i++ {
		if (i == len(kinds) || !one.End) && expr.Match(one.Right, kinds[place:i]) {
			to, right = i, true
		}
	}
	return from, to, left && right
}

func pointsOf(entry string) []int {
	var points []int
	for _, u := range units.Split(entry) {
		points = append(points, u.Point)
	}
	return points
}

func stands(points []int, kinds []api.Kind, start int) bool {
	if len(points) == 0 || start+len(points) > len(kinds) {
		return false
	}
	for i, p := range points {
		if kinds[start+i].Point != p {
			return false
		}
	}
	return true
}

// hides: does the entry hide the place from start on, after the chapter's word?
func hides(points []int, trail api.Set, kinds []api.Kind, start, place int) bool {
	if !stands(points, kinds, start) {
		return false
	}
	end := start + len(points)
	if start < place && place < end {
		return true
	}
	if end > place {
		return false
	}
	for i := end; i < place; i++ {
		if !expr.Holds(trail, kinds[i]) {
			return false
		}
	}
	return true
}

// definedAt is Why, after the chapter's words, with the numbers of the rules that are looked at ahead of the entries and behind them.
func definedAt(r api.Rules, entries []string, kinds []api.Kind, place int) api.Reason {
	before := len(r.Rules)
	if r.Suppress >= 0 && r.Suppress < before {
		before = r.Suppress
	}
	byRules := func(low, high int) (api.Reason, bool) {
		for n := low; n < high; n++ {
			if from, to, fits := reaches(r.Rules[n], kinds, place); fits {
				return byRule(place, n, from, to, r.Rules[n].Break), true
			}
		}
		return api.Reason{}, false
	}
	if x, is := byRules(0, before); is {
		return x
	}
	for n, entry := range entries {
		points := pointsOf(entry)
		for start := range kinds {
			if r.Suppress >= 0 && hides(points, r.Trail, kinds, start, place) {
				return byEntry(place, n, start, start+len(points))
			}
		}
	}
	if x, is := byRules(before, len(r.Rules)); is {
		return x
	}
	return byElse(place, r.Else)
}

func defined(r api.Rules, entries []string, kinds []api.Kind) []api.Reason {
	var l []api.Reason
	for place := 1; place < len(kinds); place++ {
		l = append(l, definedAt(r, entries, kinds, place))
	}
	return l
}

// sameAsDefined asks all calls that answer reasons.
func sameAsDefined(t *testing.T, r api.Rules, entries []string, kinds []api.Kind) []api.Reason {
	t.Helper()
	want := defined(r, entries, kinds)
	got := explain.All(r, entries, kinds)
	if !slices.Equal(got, want) {
		text, _ := rules.Print(r)
		t.Fatalf("P27.2: All(%.300s, %q, %v) = %+v, want %+v", text, entries, kinds, got, want)
	}
	for i, x := range want {
		if why, err := explain.Why(r, entries, kinds, i+1); why != x || err != nil {
			t.Fatalf("P27.1: Why at %d: %+v, %v, want %+v", i+1, why, err, x)
		}
	}
	return want
}

// sameBreaks: P27.5.
func sameBreaks(t *testing.T, r api.Rules, entries []string, kinds []api.Kind, all []api.Reason) {
	t.Helper()
	var points [][]int
	for _, entry := range entries {
		points = append(points, pointsOf(entry))
	}
	var want, got []int
	if b := rules.Breaks(r, points, kinds); len(b) > 1 {
		want = b[1 : len(b)-1]
	}
	for _, x := range all {
		if x.Break {
			got = append(got, x.Place)
		}
	}
	if !slices.Equal(got, want) {
		t.Fatalf("P27.5: %v, Breaks: %v", got, want)
	}
}

// holdsSo: P27.6.
func holdsSo(t *testing.T, r api.Rules, kinds []api.Kind, x api.Reason) {
	t.Helper()
	if x.Rule < 0 {
		return
	}
	one := r.Rules[x.Rule]
	if x.From > x.Place || x.To < x.Place || !expr.Match(one.Left, kinds[x.From:x.Place]) || !expr.Match(one.Right, kinds[x.Place:x.To]) {
		t.Fatalf("P27.6: %+v: the sides do not reach so", x)
	}
	for n, ahead := range r.Rules[:x.Rule+1] {
		if _, _, fits := reaches(ahead, kinds, x.Place); fits != (n == x.Rule) {
			t.Fatalf("P27.6: %+v: rule %d fits: %t", x, n, fits)
		}
	}
}

// drawn draws rules, entries and texts over few letters.
type drawn struct{ *rand.Rand }

func newDrawn(seed int64) drawn { return drawn{rand.New(rand.NewSource(seed))} }

func (d drawn) of(l ...string) string { return l[d.Intn(len(l))] }

func (d drawn) set() string {
	return d.of("Lower", "Upper", "Sp", "ATerm", "[Lower Sp]", "[^ Upper]", "[^]", "'a'", "'b'..'c'", "Other", "[^ 'a' Sp]", "[]")
}

// expr is the text of an expression, so many brackets deep at most.
func (d drawn) expr(deep int) string {
	var b strings.Builder
	for n := range d.Intn(4) {
		if n > 0 && d.Intn(4) == 0 {
			b.WriteString("| ")
		}
		piece := d.set()
		if deep > 0 && d.Intn(4) == 0 {
			piece = "(" + d.expr(deep-1) + ")"
		}
		b.WriteString(piece + d.of("", "", "*", "+", "?") + " ")
	}
	return b.String()
}

// file is a file of up to five rules.
func (d drawn) file() string {
	var lines []string
	for n := range d.Intn(6) {
		lines = append(lines, fmt.Sprintf("R%d: %s%s %s %s%s", n, d.of("", "", "", "^ "), d.expr(2), d.of("><", "<>"), d.expr(2), d.of("", "", "", " $")))
	}
	for _, other := range []string{"suppress", "suppress " + d.set(), "skip " + d.of("Sp", "'b'", "Other")} {
		if d.Intn(2) == 0 && (len(lines) == 0 || !slices.ContainsFunc(lines, func(l string) bool { return strings.HasPrefix(l, other[:3]) })) {
			lines = slices.Insert(lines, d.Intn(len(lines)+1), other)
		}
	}
	return strings.Join(append(lines, "else "+d.of("><", "<>")), "\n")
}

func (d drawn) rules(t *testing.T) api.Rules {
	t.Helper()
	return parsed(t, d.file())
}

func (d drawn) text(most int) string {
	var b strings.Builder
	for range d.Intn(most + 1) {
		b.WriteString(d.of("a", "b", "c", "a", "b", "A", " ", " ", ".", "\xff", "\u00e9"))
	}
	return b.String()
}

func (d drawn) entries(most int) []string {
	var l []string
	for range d.Intn(most + 1) {
		l = append(l, d.text(3))
	}
	return l
}

func TestP27_5_Drawn(t *testing.T) {
	d := newDrawn(275)
	byEntries, byRules, byNone := 0, 0, 0
	for range 6000 {
		r, entries, kinds := d.rules(t), d.entries(3), kindsOf(d.text(9))
		all := sameAsDefined(t, r, entries, kinds)
		sameBreaks(t, r, entries, kinds, all)
		for _, x := range all {
			holdsSo(t, r, kinds, x)
			switch {
			case x.Entry >= 0:
				byEntries++
			case x.Rule >= 0:
				byRules++
			default:
				byNone++
			}
		}
	}
	if byEntries < 500 || byRules < 3000 || byNone < 1000 {
		t.Errorf("only %d places by entries, %d by rules, %d by none", byEntries, byRules, byNone)
	}
}

// all is all texts of up to so many of these letters.
func allTexts(letters []string, most int) []string {
	list := []string{""}
	for from := 0; most > 0; most-- {
		level := list[from:]
		from = len(list)
		for _, text := range level {
			for _, l := range letters {
				list = append(list, text+l)
			}
		}
	}
	return list
}

func TestP27_5_AllSmallTexts(t *testing.T) {
	d := newDrawn(2755)
	texts := allTexts([]string{"a", "b", " ", "."}, 4)
	for range 40 {
		r, entries := d.rules(t), d.entries(3)
		for _, text := range texts {
			kinds := kindsOf(text)
			sameBreaks(t, r, entries, kinds, sameAsDefined(t, r, entries, kinds))
		}
	}
}

// without is r without a rule.
func without(r api.Rules, number int) api.Rules {
	r.Rules = slices.Delete(slices.Clone(r.Rules), number, number+1)
	if number < r.Suppress {
		r.Suppress--
	}
	return r
}

// P27.7: what is idle can be left out, one rule alone and all of them; what is not is some place's reason.
func TestP27_7_LeftOut(t *testing.T) {
	d := newDrawn(277)
	left := 0
	for range 1500 {
		r, entries := d.rules(t), d.entries(3)
		var points [][]int
		for _, entry := range entries {
			points = append(points, pointsOf(entry))
		}
		var words [][]api.Kind
		for range d.Intn(5) {
			words = append(words, kindsOf(d.text(7)))
		}
		var busy []int
		for _, kinds := range words {
			for _, x := range defined(r, entries, kinds) {
				busy = append(busy, x.Rule)
			}
		}
		idle := explain.Idle(r, entries, words)
		var want []int
		for number := range r.Rules {
			if !slices.Contains(busy, number) {
				want = append(want, number)
			}
		}
		if !slices.Equal(idle, want) {
			t.Fatalf("P27.4: %v, want %v", idle, want)
		}
		bare := r
		for _, number := range slices.Backward(idle) {
			bare = without(bare, number)
			for _, kinds := range words {
				was := rules.Breaks(r, points, kinds)
				if one := rules.Breaks(without(r, number), points, kinds); !slices.Equal(one, was) {
					t.Fatalf("P27.7: without rule %d %v, with it %v", number, one, was)
				}
				if now := rules.Breaks(bare, points, kinds); !slices.Equal(now, was) {
					t.Fatalf("P27.7: without rule %d and those behind %v, with them %v", number, now, was)
				}
			}
			left++
		}
	}
	if left < 1000 {
		t.Errorf("only %d idle rules", left)
	}
}

// samePlaces: what is said of each place comes to the boundary that the splitter makes.
func samePlaces(t *testing.T, s *breaker.Splitter, r api.Rules, entries []string, text string) {
	t.Helper()
	kinds := s.Kinds(text)
	all := sameAsDefined(t, r, entries, kinds)
	list := units.Split(text)
	offsets := s.Split(text)
	for i, x := range all {
		holdsSo(t, r, kinds, x)
		if slices.Contains(offsets, list[i+1].Start) != x.Break {
			t.Fatalf("W13: %q: %v, but %+v", text, offsets, x)
		}
	}
}

// W13 with the standard rules: for sentences under each locale, for words and clusters under a property file with their classes.
func TestW13_Standard(t *testing.T) {
	d := newDrawn(13)
	b, _, err := bundle.Parse(standard.Bundle())
	if err != nil {
		t.Fatal(err)
	}
	pieces := []string{"Mr.", "Mr. ", "z. B.", "St. ", "U.S.", "a.m. ", "He", "left", ". ", ".", "! ", "? No", "3.5", " ", "\r\n", "\u2029", ")", "\"", ",", "\u0301", "\u200d", "\xff", "\u00e9", "\u4e00"}
	r := parsed(t, standard.Sentences())
	for _, tag := range []string{"root", "en", "en_AU", "de", "fr"} {
		entries, err := locale.Resolve(b, tag)
		if err != nil {
			t.Fatal(err)
		}
		for _, budget := range []int{0, 10000} {
			s, err := breaker.Build(standard.Property(), standard.Sentences(), standard.Bundle(), tag, budget)
			if err != nil {
				t.Fatal(err)
			}
			for range 25 {
				var text strings.Builder
				for range 1 + d.Intn(7) {
					text.WriteString(pieces[d.Intn(len(pieces))])
				}
				samePlaces(t, s, r, entries, text.String())
			}
		}
	}
}

func TestW13_OtherRules(t *testing.T) {
	d := newDrawn(131)
	words := "0061..007A;ALetter\n0027;Single_Quote\n0022;Double_Quote\n0030..0039;Numeric\n002E;MidNumLet\n002C;MidNum\n0020;WSegSpace\n0301;Extend\n200D;ZWJ\n000D;CR\n000A;LF\n005F;ExtendNumLet\n05D0;Hebrew_Letter\n1F1E6..1F1FF;Regional_Indicator\n"
	clusters := "0301;Extend\n200D;ZWJ\n000D;CR\n000A;LF\n0009;Control\n1100;L\n1161;V\n11A8;T\nAC00;LV\nAC01;LVT\n0903;SpacingMark\n0600;Prepend\n1F1E6..1F1FF;RI\n"
	for _, c := range []struct {
		property, file string
		pieces         []string
	}{
		{words, standard.Words(), []string{"a", "b", "'", "\"", "1", ".", ",", " ", "\u0301", "\u200d", "\r", "\n", "_", "\u05d0", "\U0001F1E6", "\U0001F1E9", "\xff"}},
		{clusters, standard.Clusters(), []string{"a", "\u0301", "\u200d", "\r", "\n", "\t", "\u1100", "\u1161", "\u11a8", "\uac00", "\uac01", "\u0903", "\u0600", "\U0001F1E6", "\U0001F1E9", "\xff"}},
	} {
		s, err := breaker.Build(c.property, c.file, "", "root", 100)
		if err != nil {
			t.Fatal(err)
		}
		r := parsed(t, c.file)
		for range 60 {
			var text strings.Builder
			for range d.Intn(12) {
				text.WriteString(c.pieces[d.Intn(len(c.pieces))])
			}
			samePlaces(t, s, r, nil, text.String())
		}
	}
}

// W13 with drawn rules, as the splitter compiles them.
func TestW13_Drawn(t *testing.T) {
	d := newDrawn(133)
	property := "0041..005A;Upper\n0061..007A;Lower\n002E;ATerm\n0020;Sp\n"
	for range 250 {
		file := d.file()
		r := parsed(t, file)
		for range 2 {
			var lines strings.Builder
			var entries []string
			for _, entry := range []string{"a.", "b", "a b", "c", "ab", "A.", "."} {
				if d.Intn(2) == 0 {
					entries = append(entries, entry)
					lines.WriteString("+ " + entry + "\n")
				}
			}
			s, err := breaker.Build(property, file, "[root]\n"+lines.String(), "root", d.Intn(2)*500)
			if err != nil {
				t.Fatalf("%q: %v", file, err)
			}
			for range 12 {
				samePlaces(t, s, r, entries, d.text(9))
			}
		}
	}
}
