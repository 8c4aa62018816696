package alphabet_test

import (
	"fmt"
	"math/rand"
	"slices"
	"strings"
	"testing"

	"caesura/alphabet"
	"caesura/api"
	"caesura/props"
)

const top = 0x10ffff

// brief shows the beginning of what may be great.
func brief(x any) string {
	text := fmt.Sprint(x)
	return text[:min(len(text), 300)]
}

func names(l ...string) api.Set { return api.Set{Names: l} }

// points is the set of ranges whose ends stand one behind the other.
func points(ends ...int) api.Set {
	var s api.Set
	for i := 0; i < len(ends); i += 2 {
		s.Points = append(s.Points, api.Range{Low: ends[i], High: ends[i+1]})
	}
	return s
}

func not(s api.Set) api.Set {
	s.Not = true
	return s
}

// both is the set of the names of a and the points of b.
func both(a, b api.Set) api.Set { return api.Set{Names: a.Names, Points: b.Points} }

func sets(l ...api.Set) []api.Set { return l }

// chapter is the property of the chapter's examples.
func chapter() api.Property {
	return api.Property{Names: []string{"A", "B"}, Spans: []api.Span{{Low: 'a', High: 'c'}, {Low: 'x', High: 'x', Name: 1}}}
}

func table(t *testing.T, p api.Property) *props.Table {
	t.Helper()
	x, err := props.New(p)
	if err != nil {
		t.Fatalf("props.New(%s): %v", brief(p), err)
	}
	return x
}

func made(t *testing.T, p api.Property, l []api.Set) *alphabet.Alphabet {
	t.Helper()
	a, err := alphabet.New(table(t, p), l)
	if a == nil || err != nil {
		t.Fatalf("P10.1: New(%s) = %v, %v, want an alphabet", brief(l), a != nil, err)
	}
	return a
}

func refused(t *testing.T, p api.Property, l []api.Set, want error) {
	t.Helper()
	if a, err := alphabet.New(table(t, p), l); a != nil || err != want {
		t.Errorf("P10.1: New(%s) = %v, %v, want nil, %v", brief(l), a != nil, err, want)
	}
}

// isCodePoint leaves out what no unit has.
func isCodePoint(p int) bool { return p >= 0 && p <= top && (p < 0xd800 || p > 0xdfff) }

// classOf is a point's class after the property's words.
func classOf(p api.Property, point int) string {
	for _, s := range p.Spans {
		if isCodePoint(point) && s.Low <= point && point <= s.High {
			return p.Names[s.Name]
		}
	}
	return "Other"
}

// holds is the page's words; a point that is none stands for the bad unit.
func holds(s api.Set, class string, point int) bool {
	in := false
	for _, name := range s.Names {
		in = in || name == class
	}
	for _, r := range s.Points {
		in = in || isCodePoint(point) && r.Low <= point && point <= r.High
	}
	return in != s.Not
}

// signatureOf is one letter for each set.
func signatureOf(p api.Property, l []api.Set, point int) string {
	var b strings.Builder
	class := classOf(p, point)
	for _, s := range l {
		b.WriteByte("01"[map[bool]int{true: 1}[holds(s, class, point)]])
	}
	return b.String()
}

// expected is an alphabet after the chapter's words.
type expected struct {
	signatures []string // of each symbol
	spans      []api.Span
	stray      int
}

// cuts are the code points at which a signature may be another one than that of the code point ahead.
func cuts(p api.Property, l []api.Set) []int {
	list := []int{0, 0xe000}
	for _, s := range p.Spans {
		list = append(list, s.Low, s.High+1)
	}
	for _, s := range l {
		for _, r := range s.Points {
			list = append(list, r.Low, r.High+1)
		}
	}
	slices.Sort(list)
	list = slices.Compact(list)
	return slices.DeleteFunc(list, func(point int) bool { return !isCodePoint(point) })
}

// expect goes from cut to cut, or (every true) from code point to code point.
func expect(p api.Property, l []api.Set, every bool) expected {
	at := cuts(p, l)
	if every {
		at = at[:0]
		for point := range top + 1 {
			if isCodePoint(point) {
				at = append(at, point)
			}
		}
	}
	var e expected
	number := func(point int) int {
		s := signatureOf(p, l, point)
		if !slices.Contains(e.signatures, s) {
			e.signatures = append(e.signatures, s)
		}
		return slices.Index(e.signatures, s)
	}
	for i, point := range at {
		last := top
		if i+1 < len(at) {
			last = at[i+1] - 1
		}
		if point < 0xd800 {
			last = min(last, 0xd7ff)
		}
		e.add(api.Span{Low: point, High: last, Name: number(point)})
	}
	e.stray = number(-1)
	return e
}

func (e *expected) add(s api.Span) {
	if n := len(e.spans); n > 0 && e.spans[n-1].High+1 == s.Low && e.spans[n-1].Name == s.Name {
		e.spans[n-1].High = s.High
		return
	}
	e.spans = append(e.spans, s)
}

// of is the symbol of a point.
func (e *expected) of(point int) int {
	for _, s := range e.spans {
		if s.Low <= point && point <= s.High {
			return s.Name
		}
	}
	return e.stray
}

// letters are the symbols that the set of a number holds.
func (e *expected) letters(number int) []int {
	var l []int
	for symbol, s := range e.signatures {
		if s[number] == '1' {
			l = append(l, symbol)
		}
	}
	return l
}

// against holds all that an alphabet answers against the chapter's words.
func against(t *testing.T, p api.Property, l []api.Set, every bool) {
	t.Helper()
	a, e := made(t, p, l), expect(p, l, every)
	if got := a.Symbols(); got != len(e.signatures) {
		t.Fatalf("P10.3: %s: Symbols() = %d, want %d", brief(l), got, len(e.signatures))
	}
	spans, stray := a.Tables()
	if !slices.Equal(spans, e.spans) || stray != e.stray {
		t.Fatalf("P10.5: %s: Tables() = %s, %d, want %s, %d", brief(l), brief(spans), stray, brief(e.spans), e.stray)
	}
	var word []api.Unit
	var want []int
	for _, s := range e.spans {
		for _, point := range []int{s.Low, s.High, (s.Low + s.High) / 2, s.Low - 1, s.High + 1} {
			word = append(word, api.Unit{Point: point, Start: s.Low, End: -3})
			want = append(want, e.of(point))
			if got := a.Of(word[len(word)-1]); got != want[len(want)-1] {
				t.Fatalf("P10.3: %s: Of(%X) = %d, want %d", brief(l), point, got, want[len(want)-1])
			}
		}
	}
	if got := a.Word(word); !slices.Equal(got, want) {
		t.Fatalf("P10.3: %s: Word(%s) = %s, want %s", brief(l), brief(word), brief(got), brief(want))
	}
	for i, s := range l {
		if got, err := a.Letters(s); err != nil || !slices.Equal(got, e.letters(i)) {
			t.Fatalf("P10.4: %s: Letters(%s) = %s, %v, want %s", brief(l), brief(s), brief(got), err, brief(e.letters(i)))
		}
	}
}

// someClasses is a property by chance: its spans lie around the ends of what there is, and around the gap.
func someClasses(random *rand.Rand) api.Property {
	p := api.Property{}
	for i := range 1 + random.Intn(6) {
		p.Names = append(p.Names, fmt.Sprintf("C%d", i))
	}
	for _, r := range someRanges(random) {
		p.Spans = append(p.Spans, api.Span{Low: r.Low, High: r.High, Name: random.Intn(len(p.Names))})
	}
	return p
}

// someRanges are normal ones by chance.
func someRanges(random *rand.Rand) []api.Range {
	var l []api.Range
	at := 0
	for range random.Intn(7) {
		for _, near := range []int{0xd7f8, top - 8} {
			if at < near && random.Intn(5) == 0 {
				at = near
			}
		}
		low := at + random.Intn(5)
		high := low + random.Intn(5)*random.Intn(3)
		if random.Intn(12) == 0 {
			high += random.Intn(0x3000)
		}
		if high > top {
			break
		}
		l = append(l, api.Range{Low: low, High: high})
		at = high + 2
	}
	return l
}

// someSet is one by chance, with names of the property, Other, and such as no unit has.
func someSet(random *rand.Rand, p api.Property) api.Set {
	s := api.Set{Not: random.Intn(3) == 0}
	for _, name := range append([]string{"Other", "Zed", "C9"}, p.Names...) {
		if random.Intn(4) == 0 {
			s.Names = append(s.Names, name)
		}
	}
	slices.Sort(s.Names)
	if random.Intn(3) > 0 {
		s.Points = someRanges(random)
	}
	return s
}

func someSets(random *rand.Rand, p api.Property) []api.Set {
	var l []api.Set
	for range random.Intn(8) {
		l = append(l, someSet(random, p))
	}
	return l
}
