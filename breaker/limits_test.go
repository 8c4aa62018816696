package breaker_test

import (
	"fmt"
	"slices"
	"strings"
	"testing"

	"caesura/api"
	"caesura/breaker"
	"caesura/codec"
)

// far are rules of which a machine has more than 2^14 states: they look fourteen units back for an a.
const far = "suppress\nA: 'a' [^] [^] [^] [^] [^] [^] [^] [^] [^] [^] [^] [^] [^] [^] ><\nelse <>"

// sealed is bytes with their sum behind them.
func sealed(text string) []byte {
	sum := codec.Crc([]byte(text))
	return append([]byte(text), byte(sum>>24), byte(sum>>16), byte(sum>>8), byte(sum))
}

func refused(t *testing.T, what, property, rules, bundle, tag string, want error) {
	t.Helper()
	for _, budget := range list(0, much) {
		if s, err := breaker.Build(property, rules, bundle, tag, budget); s != nil || err != want {
			t.Errorf("P19.1: %s: %v, %v, want %v", what, s, err, want)
		}
	}
}

// points are entries that have so many different points together.
func points(n int) []string {
	var entries []string
	for at := range n {
		if at%32 == 0 {
			entries = append(entries, "")
		}
		entries[len(entries)-1] += string(rune(0x4e00 + at))
	}
	return entries
}

// Trail and each point of an entry are sets of the alphabet: 4096 at most. Entries that are not looked at are none.
func TestP19_1_MaxSets(t *testing.T) {
	entries := points(api.MaxSets - 1)
	s := built(t, "", "suppress\nelse <>", bundleOf(entries...), "en", much)
	if x := s.Tables(); x.Symbols != api.MaxSets || x.Engine != api.Filtered || len(x.Entries) != len(entries) {
		t.Errorf("P19.1: %d symbols, the engine %d, %d entries", x.Symbols, x.Engine, len(x.Entries))
	}
	splits(t, "P19.1", s, "x"+entries[0]+"yz", 0, 1, 98, 99)
	refused(t, "a set too many", "", "suppress\nelse <>", bundleOf(points(api.MaxSets)...), "en", api.ErrMany)
	s = built(t, "", "else <>", bundleOf(points(api.MaxSets)...), "en", much)
	if s.Tables().Symbols != 1 || s.Engine() != api.Merged {
		t.Errorf("P19.1: entries that are not looked at: %d symbols", s.Tables().Symbols)
	}
}

// MaxEntries: 2000 entries build, 2001 do not.
func TestP19_1_MaxEntries(t *testing.T) {
	var entries []string
	for i := range api.MaxEntries {
		entries = append(entries, string(rune(0x4e00+i)))
	}
	s := built(t, "", "suppress\nelse <>", bundleOf(entries...), "en", much)
	if x := s.Tables(); x.Engine != api.Merged || len(x.Entries) != 2000 || size(x.Merged) != 2002 {
		t.Errorf("P19.1: 2000 entries: the engine %d, %d states", x.Engine, size(x.Merged))
	}
	splits(t, "P19.1", s, "x"+entries[0]+"y"+entries[1999]+"z", 0, 1, 5, 9)
	for _, rules := range []string{"suppress\nelse <>", "else <>"} {
		refused(t, "an entry too many", "", rules, bundleOf(append(entries, "x")...), "en", api.ErrMany)
	}
}

// The merged machines would be too great: they are not built, whatever the budget, and the filter serves.
func TestP19_1_TooGreat(t *testing.T) {
	d := newDrawn(191)
	var entries []string
	for range api.MaxEntries {
		entries = append(entries, strings.Repeat(d.one("a", "b"), 1+d.Intn(3))+d.text(25, "a", "b", "c", "d", "e", "f", "g", "h")+".")
	}
	s := built(t, classesFile, rulesFile, bundleOf(entries...), "en", 1<<40)
	if s.Engine() != api.Filtered || size(s.Tables().Merged) != 0 {
		t.Errorf("P19.1: the engine %d", s.Engine())
	}
	end := 7 + len(entries[7])
	splits(t, "P19.1", s, "Ok. So "+entries[7]+" Do. Re", 0, 4, end+5, end+7)
	splits(t, "P19.1", s, "Ok. So "+entries[7]+" do. Re", 0, 4, end+5, end+7)
	splits(t, "P19.1", s, "Ok. So Z"+entries[1999]+"  Z", 0, 4, 11+len(entries[1999]))
}

// What may not be is told, whatever the budget: machines of the rules alone that are too great, places that are too many, a Trail that is too great for an entry.
func TestP19_1_Great(t *testing.T) {
	refused(t, "more than MaxStates", "", far, bundleFile, "en", api.ErrMany)
	refused(t, "the same without entries", "", far, "", "en", api.ErrMany)
	refused(t, "the same without suppress", "", strings.TrimPrefix(far, "suppress\n"), bundleFile, "en", api.ErrMany)
	loop := "A: (" + strings.Repeat("[^] | ", 1024) + "[^])* ><\nelse <>"
	refused(t, "more than MaxFollow", "", loop, "", "en", api.ErrMany)
	var trail strings.Builder
	for i := range api.MaxSpans {
		fmt.Fprintf(&trail, "\\u{%x}", 2*i+0x10000)
	}
	rules := "suppress [" + trail.String() + "]\nelse <>"
	refused(t, "a Trail of MaxSpans and an entry", "", rules, "[root]\n+ a\n", "en", api.ErrMany)
	s := built(t, "", rules, "", "en", much)
	if s.Engine() != api.Merged || s.Tables().Symbols != 2 {
		t.Errorf("P19.1: a Trail of MaxSpans and no entry: the engine %d", s.Engine())
	}
}

// A text has no limit.
func TestP19_7_LongText(t *testing.T) {
	text := strings.Repeat("Hi. Mr. Fox. \xff\u00e9 ", 20000)
	want := list(0)
	for i := range 20000 {
		want = append(want, 17*i+4, 17*i+13)
		if i == 19999 {
			want = append(want, 17*i+17)
		}
	}
	for _, budget := range list(0, much) {
		s := example(t, bundleFile, budget)
		splits(t, "P19.7", s, text, want...)
		if got := s.Parts(text); len(got) != len(want)-1 || !slices.Contains(got, "Mr. Fox. ") {
			t.Errorf("P19.8: %d parts", len(got))
		}
	}
}
