package stream_test

import (
	"slices"
	"strings"
	"testing"

	"caesura/api"
	"caesura/breaker"
	"caesura/stream"
)

// fed is all that a stream tells of a text in pieces of so many bytes.
func fed(t *testing.T, s *breaker.Splitter, text string, size int) []int {
	t.Helper()
	p := stream.New(s)
	var told []int
	for at := 0; at < len(text); at += size {
		l, err := p.Feed(text[at:min(len(text), at+size)])
		if err != nil {
			t.Error(err)
		}
		told = append(told, l...)
	}
	l, err := p.End()
	if err != nil {
		t.Error(err)
	}
	return append(told, l...)
}

// A text has no limit: long ones in pieces of all sizes, with places that wait for long.
func TestP21_5_Long(t *testing.T) {
	looksOn := "A: ATerm Sp* >< [^ Upper Lower ATerm]* Lower\nB: ATerm >< Sp\nC: ATerm Sp+ >< Sp\nsuppress Sp\nD: ATerm Sp* <>\nelse ><"
	for name, c := range map[string]struct{ rules, text string }{
		"sentences":         {looksOn, strings.Repeat("Hi. Mr. Fox. 3. ok. \xe2\x82\xac\xff. A. ", 4000)},
		"one that waits":    {looksOn, "A. " + strings.Repeat("1é", 50000) + "a. " + strings.Repeat("2", 50000) + "B"},
		"all wait":          {"A: <> [^ 'x']* 'x'\nelse ><", strings.Repeat("a", 100000) + "x"},
		"none is settled":   {"A: <> 'a'* 'x' $\nB: <> 'a'+ $\nelse ><", strings.Repeat("a", 60000)},
		"entries all over":  {"suppress\nelse <>", strings.Repeat("aaaa.Mr. b", 6000)},
		"entries in places": {"suppress Sp\nelse <>", strings.Repeat("Mr", 20000) + strings.Repeat(" ", 20000) + "Mr." + strings.Repeat(" ", 30000)},
	} {
		for _, budget := range list(0, much) {
			s := built(t, c.rules, "[root]\n+ Mr.\n+ aaaaaa\n+ aaaa.Mr.  c\n", budget)
			want := s.Split(c.text)
			for _, size := range list(1, 2, 3, 7, 4096, len(c.text)) {
				if got := fed(t, s, c.text, size); !slices.Equal(got, want) {
					t.Errorf("P21.5: %s, in pieces of %d bytes: %d boundaries, want %d", name, size, len(got), len(want))
				}
			}
		}
	}
}

// All entries that there may be, the longest ones too.
func TestP21_5_ManyEntries(t *testing.T) {
	var b strings.Builder
	b.WriteString("[root]\n")
	for i := range api.MaxEntries {
		b.WriteString("+ " + strings.Repeat("a", i%api.MaxEntry) + string(rune('\u4e00'+i/api.MaxEntry)) + "\n")
	}
	s := built(t, "suppress Sp\nelse <>", b.String(), 0)
	text := strings.Repeat("a", 40) + "\u4e00  b" + strings.Repeat("a", 31) + "\u4e01" + strings.Repeat("aa\u4e3e\u4e3f\u5000", 9)
	want := s.Split(text)
	for size := range len(text) {
		if got := fed(t, s, text, size+1); !slices.Equal(got, want) {
			t.Errorf("P21.5: in pieces of %d bytes: %v, want %v", size+1, got, want)
		}
	}
}

// A right machine of many states: a place waits until one of many counted units has come.
func TestP21_2_ManyStates(t *testing.T) {
	const count = 300
	s := built(t, "A: 'a' <>"+strings.Repeat(" [^ 'x']", count)+" 'x'\nelse ><", "", 0)
	text := strings.Repeat("ab", count) + "x" + strings.Repeat("b", count) + "x"
	if got := fed(t, s, text, 1); !slices.Equal(got, s.Split(text)) {
		t.Errorf("P21.5: %v, want %v", got, s.Split(text))
	}
	p := player{t, stream.New(s)}
	p.feed("a", 1, 0)
	p.feed(strings.Repeat("b", count), count+1)
	p.feed("x", 1, 1)
	p.feed("a"+strings.Repeat("b", count), count+1)
	p.feed("b", 1)
	p.end(2*count + 4)
}
