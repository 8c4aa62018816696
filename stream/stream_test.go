package stream_test

import (
	"slices"
	"strings"
	"testing"

	"caesura/api"
	"caesura/breaker"
	"caesura/stream"
)

// The files of chapter 19's examples.
const (
	classesFile = "0041..005A ; Upper\n0061..007A ; Lower\n002E ; ATerm\n0020 ; Sp\n"
	rulesFile   = "suppress Sp\nA: ATerm Sp* >< Lower\nB: ATerm >< Sp\nC: ATerm Sp+ >< Sp\nD: ATerm Sp* <>\nelse ><\n"
	bundleFile  = "[root]\n+ Mr.\n"
)

const much = 1 << 20

func list(n ...int) []int { return n }

// built is a splitter that must be.
func built(t *testing.T, rules, bundle string, budget int) *breaker.Splitter {
	t.Helper()
	s, err := breaker.Build(classesFile, rules, bundle, "en", budget)
	if err != nil {
		t.Fatalf("Build(%q, %q, %d): %v", rules, bundle, budget, err)
	}
	return s
}

func loaded(t *testing.T, p []byte) *breaker.Splitter {
	t.Helper()
	s, err := breaker.Load(p)
	if err != nil {
		t.Fatal(err)
	}
	return s
}

// each is the same splitter by both engines, built and loaded.
func each(t *testing.T, rules, bundle string) []*breaker.Splitter {
	t.Helper()
	var all []*breaker.Splitter
	for _, budget := range list(0, much) {
		s := built(t, rules, bundle, budget)
		all = append(all, s, loaded(t, s.Save()))
	}
	return all
}

// player is a stream whose answers are looked at.
type player struct {
	t *testing.T
	*stream.Stream
}

// feed: these boundaries are told, and so many places are waiting then.
func (p player) feed(data string, waiting int, want ...int) {
	p.t.Helper()
	if got, err := p.Feed(data); err != nil || !slices.Equal(got, want) {
		p.t.Errorf("P21.2: Feed(%q) = %v, %v, want %v", data, got, err, want)
	}
	if got := p.Waiting(); got != waiting {
		p.t.Errorf("P21.4: behind Feed(%q): Waiting() = %d, want %d", data, got, waiting)
	}
}

func (p player) end(want ...int) {
	p.t.Helper()
	if got, err := p.End(); err != nil || !slices.Equal(got, want) {
		p.t.Errorf("P21.3: End() = %v, %v, want %v", got, err, want)
	}
	p.hasEnded()
}

// hasEnded: whatever is asked now, it has.
func (p player) hasEnded() {
	p.t.Helper()
	for _, data := range []string{"", "x", "\xc3", ""} {
		if got, err := p.Feed(data); err != api.ErrEnd || len(got) != 0 {
			p.t.Errorf("P21.2: Feed(%q) behind the end = %v, %v", data, got, err)
		}
		if got, err := p.End(); err != api.ErrEnd || len(got) != 0 {
			p.t.Errorf("P21.3: a second End() = %v, %v", got, err)
		}
		if got := p.Waiting(); got != 0 {
			p.t.Errorf("P21.4: Waiting() behind the end = %d", got)
		}
	}
}

// plays begins a new stream of each splitter.
func plays(t *testing.T, all []*breaker.Splitter, play func(p player)) {
	t.Helper()
	for _, s := range all {
		play(player{t, stream.New(s)})
	}
}

func TestP21_1_New(t *testing.T) {
	all := each(t, rulesFile, bundleFile)
	plays(t, all, func(p player) {
		if got := p.Waiting(); got != 1 {
			t.Errorf("P21.1: Waiting() of a new stream = %d", got)
		}
		p.feed("", 1)
		p.feed("", 1)
		p.end()
	})
	plays(t, all, func(p player) { p.end() })
}

func TestP21_2_Examples(t *testing.T) {
	all := each(t, rulesFile, bundleFile)
	plays(t, all, func(p player) {
		p.feed("", 1)
		p.feed("Hi", 1, 0)
		p.feed(".", 1)
		p.feed(" ", 1)
		p.feed("M", 1, 4)
		p.feed("r", 1)
		p.feed(".", 1)
		p.feed(" F", 1)
		p.feed("\xc3", 1)
		p.feed("\xa9", 1)
		p.end(11)
	})
	plays(t, all, func(p player) {
		p.feed("\xe2\x82", 1)
		p.end(0, 2)
	})
	plays(t, all, func(p player) {
		p.feed("He left. ", 1, 0)
		p.feed("S\xc3", 1, 9)
		p.end(11)
	})
	plays(t, all, func(p player) {
		p.feed("Hi. Mr. Fox. ok. ", 1, 0, 4)
		p.end(17)
	})
	plays(t, all, func(p player) {
		p.feed("Hi. Mr. Fox. Ok.", 1, 0, 4, 13)
		p.feed("", 1)
		p.end(16)
	})
}

// Bytes that may be part of a longer unit count as not come, until they are a unit or can be none.
func TestP21_2_Held(t *testing.T) {
	all := each(t, "else <>", "")
	plays(t, all, func(p player) {
		p.feed("\xf0", 1)
		p.feed("\x9f", 1)
		p.feed("\x98", 1)
		p.feed("", 1)
		p.feed("\x80", 1, 0)
		p.feed("\xe2\x82", 1)
		p.feed("a", 1, 4, 5, 6) // neither byte is part of a unit now
		p.feed("\xc3", 1)
		p.feed("\xc3", 1, 7)
		p.feed("\xa9", 1, 8)
		p.end(10)
	})
	plays(t, all, func(p player) {
		p.feed("\xff", 1, 0)
		p.feed("\x80", 1, 1)
		p.feed("\xe0\x80", 1, 2, 3)
		p.feed("\xf4\x90\xed\xa0", 1, 4, 5, 6, 7)
		p.feed("a\xf0\x9f\x98", 1, 8)
		p.end(9, 10, 11, 12)
	})
	for text, want := range map[string][]int{"\xc3": list(0, 1), "\xf0\x9f\x98": list(0, 1, 2, 3), "a\xe2\x82": list(1, 2, 3)} {
		plays(t, all, func(p player) {
			got, err := p.Feed(text)
			if err != nil || len(got) != strings.Count(text, "a") || p.Waiting() != 1 {
				t.Errorf("P21.2: Feed(%q) = %v, %v, waiting %d", text, got, err, p.Waiting())
			}
			p.end(want...)
		})
	}
}

// A rule that looks on without bound keeps all places waiting that stand behind its own.
func TestP21_2_LooksOn(t *testing.T) {
	plays(t, each(t, "A: 'a' <> [^ 'x' 'y']* 'x'\nelse ><", ""), func(p player) {
		p.feed("b", 1, 0)
		p.feed("b", 1)
		p.feed("a", 1)
		p.feed("b", 2)
		p.feed("ba", 4)
		p.feed("\xe2", 4)
		p.feed("\x82", 4)
		p.feed("b", 7)
		p.feed("x", 1, 3, 6)
		p.feed("a", 1)
		p.feed("b", 2)
		p.feed("y", 1)
		p.feed("ab", 2)
		p.end(15)
	})
	// Two rules that wait for unlike units: the first place holds the second back.
	plays(t, each(t, "A: 'a' <> [^ 'x' 'y']* 'x'\nB: 'b' <> [^ 'v' 'w']* 'v'\nelse ><", ""), func(p player) {
		p.feed("bcac", 4, 0)
		p.feed("y", 5)
		p.feed("a", 6)
		p.feed("v", 2, 1)
		p.feed("c", 3)
		p.feed("x", 1, 6)
		p.end(9)
	})
}

// What is anchored at the text's end is settled by the end alone, or by more than it takes.
func TestP21_3_Anchored(t *testing.T) {
	all := each(t, "A: 'a' <> 'b' 'b' $\nelse ><", "")
	plays(t, all, func(p player) {
		p.feed("ab", 2, 0)
		p.feed("b", 3)
		p.end(1, 3)
	})
	plays(t, all, func(p player) {
		p.feed("abb", 3, 0)
		p.feed("b", 1)
		p.end(4)
	})
	plays(t, all, func(p player) {
		p.feed("abb", 3, 0)
		p.feed("\xc3", 3)
		p.end(4)
	})
	// At the end held bytes are units, and the rules see them.
	plays(t, each(t, "A: 'a' <> Other Other $\nelse ><", ""), func(p player) {
		p.feed("a\xe2\x82", 1, 0)
		p.end(1, 3)
	})
}

// An entry that may yet come keeps the boundaries that it would hide.
func TestP21_2_EntryToCome(t *testing.T) {
	plays(t, each(t, "suppress\nelse <>", "[root]\n+ a.b.c\n+ .b\n"), func(p player) {
		p.feed("xa", 1, 0, 1)
		p.feed(".", 2)
		p.feed("b", 3) // behind a and inside .b: the first is open, so the second is not settled
		p.feed(".", 4)
		p.feed("c", 1)
		p.feed("a.b", 3)
		p.feed("\xff", 1, 7)
		p.feed("a.b", 3, 10)
		p.feed(".\xe2", 4)
		p.feed("\x82", 4)
		p.end(11, 14, 15, 16)
	})
	// The longest entry is as long as one may be: it holds all places inside it open, to the last unit.
	long := strings.Repeat("a", api.MaxEntry-1)
	plays(t, each(t, "suppress\nelse <>", "[root]\n+ "+long+".\n"), func(p player) {
		p.feed(long, api.MaxEntry-1, 0)
		p.feed("a", api.MaxEntry-1, 1)
		p.feed(".", 1)
		p.feed(long, api.MaxEntry-1)
		p.feed("b", 1, from(api.MaxEntry+2, 2*api.MaxEntry)...)
		p.end(2*api.MaxEntry + 1)
	})
}

// from is the numbers a to b.
func from(a, b int) []int {
	var all []int
	for ; a <= b; a++ {
		all = append(all, a)
	}
	return all
}

// Trail stands behind an entry that came in an earlier piece, and goes on from piece to piece.
func TestP21_2_Trail(t *testing.T) {
	plays(t, each(t, "suppress Sp\nelse <>", "[root]\n+ a.\n"), func(p player) {
		p.feed("a", 1, 0)
		p.feed(".", 1)
		p.feed(" ", 1)
		p.feed("", 1)
		p.feed(" ", 1)
		p.feed(" ", 1)
		p.feed("x", 1)
		p.feed(" ", 1, 6)
		p.feed("x", 1, 7)
		p.end(8)
	})
	// Inside an entry no trail begins.
	plays(t, each(t, "suppress Sp\nelse <>", "[root]\n+ b c\n"), func(p player) {
		p.feed("b ", 2, 0)
		p.feed(" ", 1, 1, 2)
		p.feed("b c ", 1, 3)
		p.feed("c", 1)
		p.end(8)
	})
	// A bad unit may be trail, at the end too.
	plays(t, each(t, "suppress Other\nelse <>", "[root]\n+ a.\n"), func(p player) {
		p.feed("a.\xff", 1, 0)
		p.feed("\xe2\x82", 1)
		p.end(5)
	})
}

func TestP21_2_RulesAhead(t *testing.T) {
	plays(t, each(t, "A: 'a' <>\nsuppress\nB: >< 'z'\nelse <>", "[root]\n+ ab\n+ bc\n"), func(p player) {
		p.feed("ab", 1, 0, 1) // no entry overrules A
		p.feed("c", 1)
		p.feed("z", 1)
		p.feed("b", 1, 4)
		p.feed("b", 1, 5)
		p.end(6)
	})
	// Suppressions behind all rules overrule the else alone.
	plays(t, each(t, "A: 'a' <>\nB: 'b' ><\nsuppress\nelse <>", "[root]\n+ abcd\n"), func(p player) {
		p.feed("ab", 1, 0, 1)
		p.feed("c", 1)
		p.feed("d", 1)
		p.feed("abc", 1, 5)
		p.feed("x", 1, 7)
		p.end(8)
	})
}

// A place is ripe when its number is known, not when the answer is: two rules that both say a boundary keep it waiting.
func TestP21_2_OneNumber(t *testing.T) {
	plays(t, each(t, "A: 'a' <> 'b' 'c'\nB: 'a' <>\nelse ><", ""), func(p player) {
		p.feed("a", 1, 0)
		p.feed("b", 2)
		p.feed("c", 1, 1)
		p.feed("ab", 2)
		p.feed("b", 1, 4)
		p.feed("ab", 2)
		p.end(7, 8)
	})
	plays(t, each(t, "A: 'a' >< 'b' 'c'\nelse ><", ""), func(p player) {
		p.feed("ab", 2, 0)
		p.feed("b", 1)
		p.end(3)
	})
}

// Waiting counts the places 0 to m, as far as they are not settled.
func TestP21_4_Waiting(t *testing.T) {
	for _, s := range each(t, "A: <> [^ 'x' 'y']* 'x'\nelse ><", "") {
		p := player{t, stream.New(s)}
		want := 1
		for _, data := range []string{"\xe2", "\x82", "\xac", "", "bé", "\xc3", "b"} {
			p.Feed(data)
			want += map[string]int{"\xac": 0, "bé": 2, "b": 2}[data]
			if got := p.Waiting(); got != want {
				t.Errorf("P21.4: behind Feed(%q): Waiting() = %d, want %d", data, got, want)
			}
		}
		p.feed("x", 1, 3, 4, 6, 7, 8)
		p.end(9)
	}
}

// cuts are all ways to cut a short text into pieces, none empty.
func cuts(text string) [][]string {
	if text == "" {
		return [][]string{nil}
	}
	var all [][]string
	for n := 1; n <= len(text); n++ {
		for _, rest := range cuts(text[n:]) {
			all = append(all, append([]string{text[:n]}, rest...))
		}
	}
	return all
}

// P21.5: however a text is cut, by the end of each beginning of it the same was told, and at last the boundaries of the whole.
func TestP21_5_AllCuts(t *testing.T) {
	rules := []string{rulesFile, "suppress Sp\nelse <>", "A: 'a' <> [^ 'x' '.']* 'x'\nsuppress\nB: <> 'b' $\nC: 'a' <>\nelse ><", "A: ^ [^] <>\nelse ><"}
	texts := []string{"", "a", "Hi. Mr. x", "Mr. a. bé", "a\xc3\xa9.x\xe2\x82b", "aa.a.bab", "a\xf0\x9f\x98\x80.\xf0\x9f.", "...  A. a"}
	for _, file := range rules {
		for _, s := range each(t, file, "[root]\n+ Mr.\n+ a.\n+ a.b\n+ é.\n") {
			for _, text := range texts {
				byBeginning := map[int][]int{}
				for _, pieces := range cuts(text) {
					p := stream.New(s)
					var told []int
					at := 0
					for _, piece := range pieces {
						l, err := p.Feed(piece)
						told = append(told, l...)
						at += len(piece)
						if earlier, met := byBeginning[at]; err != nil || met && !slices.Equal(told, earlier) {
							t.Fatalf("P21.5: %q, %q in the pieces %q: %v by %d, else %v; %v", file, text, pieces, told, at, earlier, err)
						}
						byBeginning[at] = slices.Clone(told)
					}
					l, err := p.End()
					if told = append(told, l...); err != nil || !slices.Equal(told, s.Split(text)) {
						t.Fatalf("P21.5: %q, %q in the pieces %q: %v, %v, want %v", file, text, pieces, told, err, s.Split(text))
					}
				}
			}
		}
	}
}
