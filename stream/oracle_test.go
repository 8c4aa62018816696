package stream_test

import (
	"fmt"
	"math/rand"
	"slices"
	"strings"
	"testing"
	"unicode/utf8"

	"caesura/api"
	"caesura/breaker"
	"caesura/minimal"
	"caesura/stream"
	"caesura/tables"
)

// second is a second version, by the chapter's words: of tables, and of all bytes that have come, it works out anew which places are settled.
type second struct {
	api.Tables
	points, symbols, offsets []int // of the whole units; of their places
}

func heldOf(text string) int {
	for n := min(3, len(text)); n > 0; n-- {
		if !utf8.FullRuneInString(text[len(text)-n:]) {
			return n
		}
	}
	return 0
}

func secondOf(x api.Tables, text string) second {
	s := second{Tables: x, offsets: list(0)}
	text = text[:len(text)-heldOf(text)]
	for at := 0; at < len(text); {
		letter, size := utf8.DecodeRuneInString(text[at:])
		point, symbol := int(letter), x.Stray
		if letter == utf8.RuneError && size == 1 {
			point = api.Bad
		}
		for _, span := range x.Letters {
			if span.Low <= point && point <= span.High {
				symbol = span.Name
			}
		}
		at += size
		s.points, s.symbols, s.offsets = append(s.points, point), append(s.symbols, symbol), append(s.offsets, at)
	}
	return s
}

// run is where a machine comes to from a state.
func run(m api.Machine, state int, word []int) int {
	for _, symbol := range word {
		state = m.Next[state][symbol]
	}
	return state
}

// number is the plain number of a place for a state.
func (s second) number(place, state int) int {
	left := s.Plain.Left.Out[run(s.Plain.Left, s.Plain.Left.Start, s.symbols[:place])]
	word := slices.Clone(s.symbols[place:])
	slices.Reverse(word)
	right := s.Plain.Right.Out[run(s.Plain.Right, state, word)]
	for _, n := range left {
		if slices.Contains(right, n) {
			return n
		}
	}
	return -1
}

// oneNumber is the number that a place has for all states.
func (s second) oneNumber(place int) (int, bool) {
	d := s.number(place, 0)
	for state := range s.Plain.Right.Next {
		if s.number(place, state) != d {
			return 0, false
		}
	}
	return d, true
}

func pointsOf(entry string) []int {
	var points []int
	for _, letter := range entry {
		points = append(points, int(letter))
	}
	return points
}

// hidden: an entry stands over the place, or ahead of it with trail between.
func (s second) hidden(place int) bool {
	for _, text := range s.Entries {
		entry := pointsOf(text)
		for at := 0; at+len(entry) <= len(s.points); at++ {
			end := at + len(entry)
			if !slices.Equal(s.points[at:end], entry) {
				continue
			}
			if at < place && place < end {
				return true
			}
			if end <= place && !slices.ContainsFunc(s.symbols[end:place], func(n int) bool { return !slices.Contains(s.Trail, n) }) {
				return true
			}
		}
	}
	return false
}

// mayBeHidden: from some place ahead on stands the beginning of a longer entry.
func (s second) mayBeHidden(place int) bool {
	for j := range place {
		for _, text := range s.Entries {
			entry := pointsOf(text)
			n := len(s.points) - j
			if len(entry) > n && slices.Equal(entry[:n], s.points[j:]) {
				return true
			}
		}
	}
	return false
}

// ripe: is a place ripe, and is there a boundary then?
func (s second) ripe(place int) (ripe, boundary bool) {
	d, one := s.oneNumber(place)
	says := d >= 0 && s.Plain.Breaks[d] || d < 0 && s.Plain.Else
	switch {
	case !one:
		return false, false
	case !says:
		return true, false
	case s.Before == -1, d >= 0 && d < s.Before:
		return true, true
	case s.hidden(place):
		return true, false
	}
	return !s.mayBeHidden(place), true
}

// settled is the boundaries at the settled places, and how many places are not settled.
func (s second) settled() (told []int, waiting int) {
	m := len(s.points)
	if m == 0 {
		return nil, 1
	}
	told = list(0)
	for place := 1; place < m; place++ {
		ripe, boundary := s.ripe(place)
		if !ripe {
			return told, m + 1 - place
		}
		if boundary {
			told = append(told, s.offsets[place])
		}
	}
	return told, 1
}

// pieces cuts a text by chance: into bytes, into few long pieces, with empty ones among them.
func pieces(d *rand.Rand, text string) []string {
	var all []string
	most := 1 + d.Intn(6)
	for text != "" {
		n := min(len(text), d.Intn(most+1))
		all = append(all, text[:n])
		text = text[n:]
	}
	return append(all, "")[:len(all)+d.Intn(2)]
}

// follows feeds the pieces, and holds each answer against the second version.
func follows(t *testing.T, what string, s *breaker.Splitter, pieces []string) {
	t.Helper()
	x := s.Tables()
	p := stream.New(s)
	come := ""
	var told []int
	for i, piece := range pieces {
		come += piece
		all, waiting := secondOf(x, come).settled()
		got, err := p.Feed(piece)
		if err != nil || !slices.Equal(got, all[len(told):]) || p.Waiting() != waiting {
			t.Fatalf("P21.2: %s: %q: the last Feed = %v, %v, waiting %d, want %v, %d", what, pieces[:i+1], got, err, p.Waiting(), all[len(told):], waiting)
		}
		told = all
	}
	want, err := s.SplitBy(api.Filtered, come)
	if err != nil || len(want) < len(told) || !slices.Equal(want[:len(told)], told) {
		t.Fatalf("P21.6: %s: %q: told %v, but the boundaries are %v, %v", what, pieces, told, want, err)
	}
	if got, err := p.End(); err != nil || !slices.Equal(got, want[len(told):]) || p.Waiting() != 0 {
		t.Fatalf("P21.3: %s: %q: End = %v, %v, waiting %d, want %v", what, pieces, got, err, p.Waiting(), want[len(told):])
	}
}

func one(d *rand.Rand, of ...string) string { return of[d.Intn(len(of))] }

func side(d *rand.Rand, most int) string {
	var b strings.Builder
	for range d.Intn(most + 1) {
		fmt.Fprintf(&b, " %s%s", one(d, "'a'", "'b'", "'.'", "Sp", "Upper", "Lower", "ATerm", "Other", "[^]", "[^ 'x']", "[^ 'a' ATerm]", "('a' | 'b' Sp)"), one(d, "", "", "", "*", "+", "?"))
	}
	return b.String()
}

// drawnRules is a file of rules, some of which look far ahead, to the text's ends too.
func drawnRules(d *rand.Rand) string {
	var lines []string
	count := d.Intn(5)
	suppress := d.Intn(count+2) - 1
	for i := range count + 1 {
		if i == suppress {
			lines = append(lines, "suppress "+one(d, "", "Sp", "Other", "[^]", "['a' Sp]"))
		}
		if i < count {
			lines = append(lines, fmt.Sprintf("R%d: %s%s %s %s%s", i, one(d, "", "", "", "^"), side(d, 2), one(d, "<>", "><"), side(d, 3), one(d, "", "", "", " $")))
		}
	}
	return strings.Join(append(lines, "else "+one(d, "<>", "<>", "><")), "\n")
}

func drawnEntries(d *rand.Rand) []string {
	var all []string
	for range d.Intn(5) {
		var b strings.Builder
		for range 1 + d.Intn(4) {
			b.WriteString(one(d, "a", "b", ".", " ", "é", "€", "A"))
		}
		all = append(all, b.String())
	}
	slices.Sort(all)
	return slices.Compact(all)
}

func drawnText(d *rand.Rand, entries []string) string {
	of := append([]string{"a", "b", "x", "A", ".", " ", ". ", "é", "€", "\U0001f600", "\xff", "\xe2\x82", "\xc3", "\xf0\x9f"}, entries...)
	var b strings.Builder
	for range d.Intn(13) {
		b.WriteString(one(d, of...))
	}
	return b.String()
}

func bundleOf(entries []string) string {
	text := "[root]\n"
	for _, entry := range entries {
		text += "+ " + strings.ReplaceAll(entry, " ", `\s`) + "\n"
	}
	return text
}

// W7, P21.2 to P21.6: streams of drawn rules and entries, of each engine, built and loaded.
func TestW7_Drawn(t *testing.T) {
	d := rand.New(rand.NewSource(217))
	waited := 0
	for i := range 500 {
		rules, entries := drawnRules(d), drawnEntries(d)
		s := built(t, rules, bundleOf(entries), list(0, much)[i%2])
		if i%4 > 1 {
			s = loaded(t, s.Save())
		}
		what := fmt.Sprintf("%q, %q", rules, entries)
		for range 12 {
			text := drawnText(d, entries)
			if filtered, _ := s.SplitBy(api.Filtered, text); !slices.Equal(filtered, s.Split(text)) {
				t.Fatalf("W1: %s: %q", what, text)
			}
			if _, waiting := secondOf(s.Tables(), text).settled(); waiting > 2 {
				waited++
			}
			follows(t, what, s, pieces(d, text))
		}
	}
	if waited < 200 {
		t.Errorf("only %d texts end with places that wait", waited)
	}
}

// machine is a drawn machine, the least that says the same.
func machine(t *testing.T, d *rand.Rand, symbols, patterns int) api.Machine {
	t.Helper()
	n := 1 + d.Intn(6)
	m := api.Machine{Start: d.Intn(n)}
	for range n {
		var row, out []int
		for range symbols {
			row = append(row, d.Intn(n))
		}
		for p := range patterns {
			if d.Intn(3) == 0 {
				out = append(out, p)
			}
		}
		m.Next, m.Out = append(m.Next, row), append(m.Out, out)
	}
	m, err := minimal.Of(m, symbols)
	if err != nil {
		t.Fatal(err)
	}
	return m
}

// drawnTables is tables that no Build makes: any two machines, any Before, any Trail.
func drawnTables(t *testing.T, d *rand.Rand) api.Tables {
	t.Helper()
	x := api.Tables{
		Names: []string{"Other"}, Symbols: 3, Stray: d.Intn(3), Engine: api.Filtered, Before: -1,
		Letters: []api.Span{{Low: 0, High: 'a'}, {Low: 'b', High: 0xd7ff, Name: 1}, {Low: 0xe000, High: 0x10ffff, Name: 2}},
	}
	patterns := d.Intn(5)
	x.Plain = api.Pairing{Left: machine(t, d, 3, patterns), Right: machine(t, d, 3, patterns), Else: d.Intn(2) == 0}
	for range patterns {
		x.Plain.Breaks = append(x.Plain.Breaks, d.Intn(2) == 0)
	}
	if d.Intn(4) > 0 {
		x.Before, x.Entries = d.Intn(patterns+1), drawnEntries(d)
		for symbol := range 3 {
			if d.Intn(2) == 0 {
				x.Trail = append(x.Trail, symbol)
			}
		}
	}
	return x
}

// The promises speak of the tables: whatever loads makes a stream, and the merged pairing is not looked at.
func TestP21_6_Tables(t *testing.T) {
	d := rand.New(rand.NewSource(216))
	for range 1500 {
		x := drawnTables(t, d)
		y := x
		y.Engine, y.Merged = api.Merged, api.Pairing{Left: machine(t, d, 3, 0), Right: machine(t, d, 3, 0), Else: d.Intn(2) == 0}
		what := fmt.Sprintf("%+v", x)
		for _, z := range []api.Tables{x, y} {
			p, err := tables.Save(z)
			if err != nil {
				t.Fatal(err)
			}
			s := loaded(t, p)
			for range 4 {
				follows(t, what, s, pieces(d, drawnText(d, x.Entries)))
			}
		}
	}
}

// W2: streams of all budgets tell the same boundaries at the same Feed.
func TestW2_Budgets(t *testing.T) {
	d := rand.New(rand.NewSource(212))
	for range 150 {
		rules, entries := drawnRules(d), drawnEntries(d)
		small, great := built(t, rules, bundleOf(entries), 0), built(t, rules, bundleOf(entries), much)
		for range 6 {
			p, q := stream.New(small), stream.New(great)
			all := pieces(d, drawnText(d, entries))
			for _, piece := range all {
				a, _ := p.Feed(piece)
				b, _ := q.Feed(piece)
				if !slices.Equal(a, b) || p.Waiting() != q.Waiting() {
					t.Fatalf("W2: %q, %q: %q: %v and %v", rules, entries, all, a, b)
				}
			}
			a, _ := p.End()
			b, _ := q.End()
			if !slices.Equal(a, b) {
				t.Fatalf("W2: %q, %q: %q: End: %v and %v", rules, entries, all, a, b)
			}
		}
	}
}
