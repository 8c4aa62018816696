package standard_test

import (
	"bytes"
	"fmt"
	"math"
	"slices"
	"strings"
	"sync"
	"testing"

	"caesura/api"
	"caesura/breaker"
	"caesura/bundle"
	"caesura/locale"
	"caesura/propfile"
	"caesura/rules"
	"caesura/standard"
)

const much = 1 << 20

func list(n ...int) []int { return n }

// brief is a list's text, or its beginning.
func brief(l []int) string { return fmt.Sprintf("%.300s", fmt.Sprint(l)) }

func built(t *testing.T, property, rules, bundle, tag string, budget int) *breaker.Splitter {
	t.Helper()
	s, err := breaker.Build(property, rules, bundle, tag, budget)
	if err != nil || s == nil {
		t.Fatalf("P24.2: Build of %.30q, %.30q, %.30q, %q, %d: %v", property, rules, bundle, tag, budget, err)
	}
	return s
}

// each is the splitters of files by both engines, built and loaded.
func each(t *testing.T, property, rules, bundle, tag string) []*breaker.Splitter {
	t.Helper()
	var all []*breaker.Splitter
	for budget, want := range map[int]int{0: api.Filtered, much: api.Merged} {
		s := built(t, property, rules, bundle, tag, budget)
		if s.Engine() != want {
			t.Fatalf("P24.2: %q by a budget of %d: the engine %d", tag, budget, s.Engine())
		}
		again, err := breaker.Load(s.Save())
		if err != nil {
			t.Fatal(err)
		}
		all = append(all, s, again)
	}
	return all
}

// splits: splitters answer these boundaries, by each engine that they have.
func splits(t *testing.T, promise string, all []*breaker.Splitter, text string, want ...int) {
	t.Helper()
	for _, s := range all {
		if got := s.Split(text); !slices.Equal(got, want) {
			t.Fatalf("%s: Split(%.200q) = %s, want %s", promise, text, brief(got), brief(want))
		}
		if got, err := s.SplitBy(api.Filtered, text); err != nil || !slices.Equal(got, want) {
			t.Fatalf("%s: SplitBy(Filtered, %.200q) = %s, %v, want %s", promise, text, brief(got), err, brief(want))
		}
	}
}

// texts are what the five calls answer.
func texts() []string {
	return []string{standard.Sentences(), standard.Words(), standard.Clusters(), standard.Property(), standard.Bundle()}
}

func TestP24_1_ByteByByte(t *testing.T) {
	names := []string{"Sentences", "Words", "Clusters", "Property", "Bundle"}
	for i, want := range []string{sentencesText, wordsText, clustersText, propertyText, bundleText} {
		got := texts()[i]
		if got == want {
			continue
		}
		at := 0
		for at < min(len(got), len(want)) && got[at] == want[at] {
			at++
		}
		t.Errorf("P24.1: %s() has %d bytes, want %d; from line %d on: %.60q, want %.60q", names[i], len(got), len(want), 1+strings.Count(want[:at], "\n"), got[at:], want[at:])
	}
}

func TestP24_1_Lines(t *testing.T) {
	lengths := list(466, 948, 338, 1146, 363)
	lines := list(16, 28, 14, 79, 47)
	for i, text := range texts() {
		if len(text) != lengths[i] || strings.Count(text, "\n") != lines[i] {
			t.Errorf("P24.1: text %d: %d bytes, %d lines, want %d, %d", i, len(text), strings.Count(text, "\n"), lengths[i], lines[i])
		}
		if !strings.HasSuffix(text, "\n") || strings.HasSuffix(text, "\n\n") || !strings.HasPrefix(text, "# ") {
			t.Errorf("P24.1: text %d: how it begins or ends", i)
		}
		if strings.ContainsAny(text, "\t\r") || strings.Contains(text, " \n") || strings.Contains(text, "\n ") || strings.Contains(text, "\n\n") {
			t.Errorf("P24.1: text %d: a blank where none stands", i)
		}
	}
}

func TestP24_2_Rules(t *testing.T) {
	trail := api.Set{Names: []string{"Sp"}}
	for _, c := range []struct {
		text, names, breaking string
		suppress              int
		trail                 api.Set
		otherwise             bool
	}{
		{standard.Sentences(), "SB3 SB4 SB5 SB6 SB7 SB8 SB8a SB9 SB10 SB11", "SB4 SB11", 9, trail, false},
		{standard.Words(), "WB3 WB3a WB3b WB3d WB4 WB5 WB6 WB7 WB7a WB7b WB7c WB8 WB9 WB10 WB11 WB12 WB13 WB13a WB13b WB15 WB16", "WB3a WB3b", -1, api.Set{}, true},
		{standard.Clusters(), "GB3 GB4 GB5 GB6 GB7 GB8 GB9 GB9a GB9b GB12 GB13", "GB4 GB5", -1, api.Set{}, true},
	} {
		r, line, err := rules.Parse(c.text)
		if err != nil || line != 0 {
			t.Errorf("P24.2: rules.Parse(%.30q): line %d, %v", c.text, line, err)
			continue
		}
		var names, breaking, anchored []string
		for _, rule := range r.Rules {
			names = append(names, rule.Name)
			if rule.Break {
				breaking = append(breaking, rule.Name)
			}
			if rule.Start || rule.End {
				anchored = append(anchored, rule.Name)
			}
		}
		if strings.Join(names, " ") != c.names || strings.Join(breaking, " ") != c.breaking {
			t.Errorf("P24.2: %.30q: the rules %v, of which break %v", c.text, names, breaking)
		}
		if r.Suppress != c.suppress || !slices.Equal(r.Trail.Names, c.trail.Names) || r.Trail.Not || len(r.Trail.Points) > 0 || r.Else != c.otherwise {
			t.Errorf("P24.2: %.30q: suppress %d, %v, else %v", c.text, r.Suppress, r.Trail, r.Else)
		}
		for _, name := range anchored {
			if name != "WB15" && name != "GB12" {
				t.Errorf("P24.2: %.30q: %s asks for an end of the text", c.text, name)
			}
		}
	}
}

func TestP24_2_Property(t *testing.T) {
	p, line, err := propfile.Parse(standard.Property())
	if err != nil || line != 0 || len(p.Spans) != 78 { // no two neighbours are of one class
		t.Errorf("P24.2: propfile.Parse: %d spans, line %d, %v", len(p.Spans), line, err)
	}
	if got := strings.Join(p.Names, " "); got != "CR LF Sep Extend Format Sp Lower Upper OLetter Numeric ATerm STerm SContinue Close" {
		t.Errorf("P24.2: the names %s", got)
	}
}

func TestP24_2_Bundle(t *testing.T) {
	b, line, err := bundle.Parse(standard.Bundle())
	if err != nil || line != 0 || len(b.Sections) != 7 {
		t.Fatalf("P24.2: bundle.Parse: %d sections, line %d, %v", len(b.Sections), line, err)
	}
	en := "Dr.|Fig.|Jr.|Mr.|Mrs.|Ms.|No.|Prof.|Sr.|St.|U.K.|U.S.|a.m.|e.g.|i.e.|p.m.|vs."
	de := "Dr.|Fr.|Hr.|Nr.|Prof.|Str.|bzw.|d. h.|u. a.|usw.|z. B.|z.B."
	for tag, want := range map[string]string{
		"root": "", "es": "", "en": en, "EN-us": en, "de": de, "de_AT": de, "fr_CA": "M.|MM.|Mme.|etc.|p. ex.",
		"en_GB": strings.Replace(en, "St.", "Rev.", 1), "en_AU": strings.Replace(en, "St.", "Rev.|Hon.", 1), "de_CH": strings.Replace(de, "Str.|", "", 1),
	} {
		l, err := locale.Resolve(b, tag)
		wanted := strings.Split(want, "|")
		slices.Sort(wanted)
		if got := strings.Join(l, "|"); err != nil || got != strings.Join(wanted, "|") {
			t.Errorf("P24.2: %s: %q, %v, want %q", tag, got, err, wanted)
		}
	}
}

// With any budget: that which just does, one less, one more, and the ends.
func TestP24_2_Build(t *testing.T) {
	tags := []string{"root", "en", "en_GB", "en-au", "DE", "de_CH", "de_AT", "fr", "fr_CA", "es_419", "zh_Hant_TW", "aa_1_2_3_4_5_6_7_8_9_a_b_c_d"}
	for _, text := range texts()[:3] {
		for _, tag := range tags {
			x := built(t, standard.Property(), text, standard.Bundle(), tag, math.MaxInt).Tables()
			if x.Engine != api.Merged {
				t.Errorf("P24.2: %.30q, %s: the engine %d", text, tag, x.Engine)
			}
			n := len(x.Merged.Left.Next) + len(x.Merged.Right.Next)
			for budget, want := range map[int]int{0: api.Filtered, 1: api.Filtered, n - 1: api.Filtered, n: api.Merged, n + 1: api.Merged} {
				if s := built(t, standard.Property(), text, standard.Bundle(), tag, budget); s.Engine() != want {
					t.Errorf("P24.2: %.30q, %s, %d of %d states: the engine %d", text, tag, budget, n, s.Engine())
				}
			}
		}
		for tag, want := range map[string]error{"": api.ErrText, "e": api.ErrText, "root_US": api.ErrText, "en US": api.ErrText, "aa_1_2_3_4_5_6_7_8_9_a_b_c_d_e_f": api.ErrMany} {
			if s, err := breaker.Build(standard.Property(), text, standard.Bundle(), tag, 9); s != nil || err != want {
				t.Errorf("P24.2: %.30q, %q, which Resolve refuses: %v, want %v", text, tag, err, want)
			}
		}
		if s, err := breaker.Build(standard.Property(), text, standard.Bundle(), "en", -1); s != nil || err != api.ErrArg {
			t.Errorf("P24.2: a budget below 0: %v", err)
		}
	}
}

func TestP24_3_Examples(t *testing.T) {
	for _, c := range []struct {
		tags, text string
		want       []int
	}{
		{"root es", "Mr. Smith came. He left.", list(0, 4, 16, 24)},
		{"en en_US en_AU", "Mr. Smith came. He left.", list(0, 16, 24)},
		{"en root de", "It is 3.5 m. long. (Yes.) No", list(0, 19, 26, 28)},
		{"en_GB en_AU", "See St. Paul.", list(0, 8, 13)},
		{"en", "See St. Paul.", list(0, 13)},
		{"en_AU", "Hon. Rev. A.", list(0, 12)},
		{"en_GB", "Hon. Rev. A.", list(0, 5, 12)},
		{"de de_CH", "Das ist z. B. So.", list(0, 17)},
		{"root en", "Das ist z. B. So.", list(0, 11, 14, 17)},
		{"root en", "a.\r\nb", list(0, 4, 5)},
		{"root en", "A.\u0301 b", list(0, 6)},
		{"root en", "A.\u0301 B", list(0, 5, 6)},
		{"root en", "", nil},
		{"root en", "\xff", list(0, 1)},
		{"en", "He left. she", list(0, 12)},
		{"en", "He left. She", list(0, 9, 12)},
		{"fr", "M. Z. et p. ex. A. Mme. B", list(0, 19, 25)},
		{"root en", "?\u200d\u00ad! \u2029 Ja! ja", list(0, 11, 16, 18)},
	} {
		for _, tag := range strings.Fields(c.tags) {
			splits(t, "P24.3: "+tag, each(t, standard.Property(), standard.Sentences(), standard.Bundle(), tag), c.text, c.want...)
		}
	}
}

func TestP24_5_Again(t *testing.T) {
	first := texts()
	var all sync.WaitGroup
	for range 8 {
		all.Go(func() {
			for range 50 {
				if !slices.Equal(texts(), first) {
					t.Error("P24.5: the texts are others")
				}
			}
		})
	}
	all.Wait()
	for _, text := range first[:3] {
		saved := built(t, standard.Property(), text, standard.Bundle(), "en", much).Save()
		if !bytes.Equal(built(t, standard.Property(), text, standard.Bundle(), "en", much).Save(), saved) {
			t.Errorf("P24.5: %.30q: the splitter is another one", text)
		}
	}
	if !slices.Equal(texts(), first) {
		t.Error("P24.5: the texts are others behind their use")
	}
}
