package breaker_test

import (
	"bytes"
	"math"
	"slices"
	"strings"
	"testing"

	"caesura/alphabet"
	"caesura/api"
	"caesura/breaker"
	"caesura/bundle"
	"caesura/locale"
	"caesura/merge"
	"caesura/pair"
	"caesura/propfile"
	"caesura/props"
	"caesura/rules"
	"caesura/tables"
	"caesura/units"
)

// The files of the chapter's examples.
const (
	classesFile = "0041..005A ; Upper\n0061..007A ; Lower\n002E ; ATerm\n0020 ; Sp\n"
	rulesFile   = "suppress Sp\nA: ATerm Sp* >< Lower\nB: ATerm >< Sp\nC: ATerm Sp+ >< Sp\nD: ATerm Sp* <>\nelse ><\n"
	bundleFile  = "[root]\n+ Mr.\n"
)

const much = 1 << 20

func example(t *testing.T, bundle string, budget int) *breaker.Splitter {
	t.Helper()
	return built(t, classesFile, rulesFile, bundle, "en", budget)
}

// splits: a splitter answers these boundaries, by each of its engines.
func splits(t *testing.T, promise string, s *breaker.Splitter, text string, want ...int) {
	t.Helper()
	if got := s.Split(text); !slices.Equal(got, want) {
		t.Errorf("%s: Split(%.300q) = %s, want %s", promise, text, brief(got), brief(want))
	}
	for _, engine := range list(api.Merged, api.Filtered) {
		got, err := s.SplitBy(engine, text)
		if engine == api.Merged && s.Engine() == api.Filtered {
			if err != api.ErrLost || len(got) != 0 {
				t.Errorf("P19.6: SplitBy(Merged, %.300q) = %s, %v, want ErrLost", text, brief(got), err)
			}
		} else if err != nil || !slices.Equal(got, want) {
			t.Errorf("%s: SplitBy(%d, %.300q) = %s, %v, want %s", promise, engine, text, brief(got), err, brief(want))
		}
	}
}

func TestP19_7_Examples(t *testing.T) {
	text := "Hi. Mr. Fox. ok."
	for _, budget := range list(0, 100) {
		s := example(t, bundleFile, budget)
		splits(t, "P19.7", s, text, 0, 4, 16)
		splits(t, "P19.7", s, "")
		splits(t, "P19.7", s, "a", 0, 1)
		splits(t, "P19.7", s, "\xff", 0, 1)
		splits(t, "P19.7", s, "é. €. A", 0, 4, 9, 10)
		splits(t, "P19.7", s, "\xe2\x82. Mr. \xe2\x82.", 0, 4, 11)
		splits(t, "P19.7", example(t, "", budget), text, 0, 4, 8, 16)
		parts(t, s, "")
		parts(t, s, text, "Hi. ", "Mr. Fox. ok.")
		parts(t, s, "x", "x")
		parts(t, s, "é. \xff. Mr. Z", "é. ", "\xff. ", "Mr. Z")
	}
}

func parts(t *testing.T, s *breaker.Splitter, text string, want ...string) {
	t.Helper()
	if got := s.Parts(text); !slices.Equal(got, want) {
		t.Errorf("P19.8: Parts(%q) = %q, want %q", text, got, want)
	}
}

func TestP19_4_Engine(t *testing.T) {
	merged, filtered := example(t, bundleFile, 100), example(t, bundleFile, 0)
	if merged.Engine() != api.Merged || filtered.Engine() != api.Filtered {
		t.Errorf("P19.4: the engines are %d and %d", merged.Engine(), filtered.Engine())
	}
	for _, s := range []*breaker.Splitter{merged, filtered} {
		if again := loaded(t, s.Save()); again.Engine() != s.Engine() {
			t.Errorf("P19.4: loaded: %d, want %d", again.Engine(), s.Engine())
		}
	}
}

// The least budget with which the merged engine serves is the number of its states.
func TestP19_1_Budget(t *testing.T) {
	for _, bundle := range []string{bundleFile, "", "[en]\n+ z. B.\n+ Dr.\n"} {
		n := size(example(t, bundle, much).Tables().Merged)
		for budget, want := range map[int]int{0: api.Filtered, 1: api.Filtered, n - 1: api.Filtered, n: api.Merged, n + 1: api.Merged, math.MaxInt: api.Merged} {
			if s := example(t, bundle, budget); s.Engine() != want {
				t.Errorf("P19.1: %q, %d of %d states: the engine %d, want %d", bundle, budget, n, s.Engine(), want)
			}
		}
	}
	if s := built(t, "", "else <>", "", "root", 2); s.Engine() != api.Merged || size(s.Tables().Plain) != 2 {
		t.Errorf("P19.1: two states: the engine %d", s.Engine())
	}
}

func TestP19_6_Refusals(t *testing.T) {
	for _, s := range []*breaker.Splitter{example(t, bundleFile, 100), example(t, bundleFile, 0), loaded(t, example(t, bundleFile, 0).Save())} {
		for _, engine := range list(0, 3, -1, 4, math.MinInt, math.MaxInt) {
			for _, text := range []string{"", "a", "Hi. A"} {
				if got, err := s.SplitBy(engine, text); err != api.ErrArg || len(got) != 0 {
					t.Errorf("P19.6: SplitBy(%d, %q) = %v, %v, want ErrArg", engine, text, got, err)
				}
			}
		}
		splits(t, "P19.6", s, "")
		splits(t, "P19.6", s, "Hi. A", 0, 4, 5)
	}
}

func TestP19_9_Kinds(t *testing.T) {
	want := []api.Kind{{Class: "Upper", Point: 'A'}, {Class: "Sp", Point: ' '}, {Class: "ATerm", Point: '.'}, {Class: "Other", Point: api.Bad}, {Class: "Other", Point: 0xe9}, {Class: "Lower", Point: 'z'}, {Class: "Other", Point: 0x10ffff}, {Class: "Other", Point: 0}}
	s := example(t, bundleFile, 9)
	for _, s := range []*breaker.Splitter{s, loaded(t, s.Save())} {
		if got := s.Kinds("A .\xff\u00e9z\U0010ffff\x00"); !slices.Equal(got, want) {
			t.Errorf("P19.9: %v, want %v", got, want)
		}
		if got := s.Kinds(""); len(got) != 0 {
			t.Errorf("P19.9: of no text: %v", got)
		}
	}
	s = built(t, "0000..10FFFF;All", "else <>", "", "root", 9)
	if got := s.Kinds("a\xff\U0010ffff"); !slices.Equal(got, []api.Kind{{Class: "All", Point: 'a'}, {Class: "Other", Point: api.Bad}, {Class: "All", Point: 0x10ffff}}) {
		t.Errorf("P19.9: %v", got)
	}
}

func TestP19_1_Refusals(t *testing.T) {
	round := "[en]\nparent de\n[de]\nparent en\n"
	for _, c := range []struct {
		property, rules, bundle, tag string
		budget                       int
		want                         error
	}{
		{classesFile, rulesFile, bundleFile, "en", -1, api.ErrArg},
		{classesFile, rulesFile, bundleFile, "en", math.MinInt, api.ErrArg},
		{"x", rulesFile, bundleFile, "en", 1, api.ErrText},
		{"110000;A", rulesFile, bundleFile, "en", 1, api.ErrArg},
		{"0041;A\n0041;B", rulesFile, bundleFile, "en", 1, api.ErrTwice},
		{"0042..0041;A", rulesFile, bundleFile, "en", 1, api.ErrOrder},
		{classesFile, "x", bundleFile, "en", 1, api.ErrText},
		{classesFile, "", bundleFile, "en", 1, api.ErrShort},
		{classesFile, "A: ><\nA: ><\nelse ><", bundleFile, "en", 1, api.ErrTwice},
		{classesFile, "A: Upper ><\nlet Upper = Lower\nelse ><", bundleFile, "en", 1, api.ErrOrder},
		{classesFile, rulesFile, "x", "en", 1, api.ErrText},
		{classesFile, rulesFile, "[en]\n[en]", "en", 1, api.ErrTwice},
		{classesFile, rulesFile, "[root]\nparent en", "en", 1, api.ErrArg},
		{classesFile, rulesFile, bundleFile, "", 1, api.ErrText},
		{classesFile, rulesFile, bundleFile, "root_US", 1, api.ErrText},
		{classesFile, rulesFile, round, "en", 1, api.ErrCycle},
		{classesFile, rulesFile, round, "fr", 1, nil},
		// the first that applies is told
		{"x", "", "[en]\n[en]", "", -1, api.ErrArg},
		{"0041;A\n0041;B", "", "x", "", 1, api.ErrTwice},
		{classesFile, "", "x", "", 1, api.ErrShort},
		{classesFile, rulesFile, "[root]\nparent en", "", 1, api.ErrArg},
		{classesFile, "A: " + strings.Repeat("[^] ", 4001) + "><\nelse ><", "x", "", 1, api.ErrMany},
		// what may not be is told, though the entries are not looked at
		{classesFile, "else <>", "x", "en", 1, api.ErrText},
		{classesFile, "else <>", bundleFile, "", 1, api.ErrText},
		{classesFile, "else <>", round, "en", 1, api.ErrCycle},
		// a machine that is too great stands behind all files
		{classesFile, far, "x", "en", 1, api.ErrText},
		{classesFile, far, round, "en", 1, api.ErrCycle},
		{classesFile, far, bundleFile, "en", 1, api.ErrMany},
	} {
		if s, err := breaker.Build(c.property, c.rules, c.bundle, c.tag, c.budget); (s != nil) != (c.want == nil) || err != c.want {
			t.Errorf("P19.1: Build(%q, %.300q, %q, %q, %d): %v, %v, want %v", c.property, c.rules, c.bundle, c.tag, c.budget, s, err, c.want)
		}
	}
}

// tablesBy is the tables after the chapter's words, or the first error of its steps.
func tablesBy(property, text, bundleText, tag string, budget int) (api.Tables, error) {
	p, _, err := propfile.Parse(property)
	if err != nil {
		return api.Tables{}, err
	}
	classes, err := props.New(p)
	if err != nil {
		return api.Tables{}, err
	}
	r, _, err := rules.Parse(text)
	if err != nil {
		return api.Tables{}, err
	}
	b, _, err := bundle.Parse(bundleText)
	if err != nil {
		return api.Tables{}, err
	}
	x := api.Tables{Names: append([]string{"Other"}, p.Names...), Engine: api.Filtered, Before: r.Suppress}
	if x.Entries, err = locale.Resolve(b, tag); err != nil {
		return api.Tables{}, err
	}
	for _, s := range p.Spans {
		x.Spans = append(x.Spans, api.Span{Low: s.Low, High: s.High, Name: s.Name + 1})
	}
	if r.Suppress == -1 {
		x.Entries = nil
	}
	var entries [][]int
	for _, entry := range x.Entries {
		var points []int
		for _, u := range units.Split(entry) {
			points = append(points, u.Point)
		}
		entries = append(entries, points)
	}
	a, err := alphabet.New(classes, alphabet.Sets(r, entries))
	if err != nil {
		return api.Tables{}, err
	}
	x.Symbols = a.Symbols()
	x.Letters, x.Stray = a.Tables()
	if r.Suppress >= 0 {
		if x.Trail, err = a.Letters(r.Trail); err != nil {
			return api.Tables{}, err
		}
	}
	if x.Plain, err = pair.Of(r, nil, a, 2*api.MaxStates); err != nil {
		return api.Tables{}, err
	}
	merged, ok, err := merge.Of(r, entries, a, budget)
	if err != nil {
		return api.Tables{}, err
	}
	if ok {
		x.Merged, x.Engine = merged, api.Merged
	}
	return x, nil
}

func TestP19_2_Tables(t *testing.T) {
	for _, c := range []struct{ property, rules, bundle, tag string }{
		{classesFile, rulesFile, bundleFile, "en"},
		{"", "else ><", "", "root"},
		{"0061;B\n0041;A\n0062;B", "A: B ><\nsuppress\nelse <>", "[root]\n+ z. B.\n+ aa\n", "de_AT"},
		{"0061;B\n0041;A\n0062;B", "A: B ><\nelse <>", "[root]\n+ z. B.\n+ aa\n", "de_AT"},
		{"0000..10FFFF;All", "suppress [^]\nA: All >< All\nelse <>", "[root]\n+ a\n[en]\n- a\n+ b\n", "en"},
		{"D800..DFFF;Never", "suppress [Never \\u{d800}]\nelse <>", bundleFile, "en"},
	} {
		for _, budget := range list(0, 5, much) {
			want, err := tablesBy(c.property, c.rules, c.bundle, c.tag, budget)
			if err != nil {
				t.Fatal(err)
			}
			got := built(t, c.property, c.rules, c.bundle, c.tag, budget).Tables()
			if !same(got, want) || tables.Check(got) != nil {
				t.Errorf("P19.2: %q, %q, %q, %d: %s, want %s", c.property, c.rules, c.bundle, budget, brief(got), brief(want))
			}
		}
	}
	x := example(t, bundleFile, 0).Tables()
	if !slices.Equal(x.Names, []string{"Other", "Upper", "Lower", "ATerm", "Sp"}) || !slices.Equal(x.Spans, []api.Span{{Low: ' ', High: ' ', Name: 4}, {Low: '.', High: '.', Name: 3}, {Low: 'A', High: 'Z', Name: 1}, {Low: 'a', High: 'z', Name: 2}}) {
		t.Errorf("P19.2: %v, %v", x.Names, x.Spans)
	}
	if x.Before != 0 || !slices.Equal(x.Entries, []string{"Mr."}) || len(x.Trail) != 1 || size(x.Merged) != 0 || size(x.Plain) == 0 || len(x.Plain.Breaks) != 4 {
		t.Errorf("P19.2: %s", brief(x))
	}
	x = example(t, bundleFile, much).Tables()
	if len(x.Merged.Breaks) != 7 || len(x.Plain.Breaks) != 4 || x.Engine != api.Merged {
		t.Errorf("P19.2: %d and %d rules", len(x.Merged.Breaks), len(x.Plain.Breaks))
	}
}

// Without a suppress the entries count as none, whatever they are.
func TestP19_1_NoSuppress(t *testing.T) {
	s := built(t, classesFile, "D: ATerm <>\nelse ><", bundleFile, "en", much)
	x := s.Tables()
	if len(x.Entries) != 0 || len(x.Trail) != 0 || x.Before != -1 || !samePairing(x.Plain, x.Merged) {
		t.Errorf("P19.1: %v, %v, %d", x.Entries, x.Trail, x.Before)
	}
	splits(t, "P19.1", s, "Mr. A", 0, 3, 5)
	none := built(t, classesFile, "D: ATerm <>\nelse ><", "", "en", much)
	if !same(x, none.Tables()) {
		t.Error("P19.1: entries that are not looked at change the tables")
	}
}

func loaded(t *testing.T, p []byte) *breaker.Splitter {
	t.Helper()
	s, err := breaker.Load(p)
	if err != nil || s == nil {
		t.Fatalf("P19.3: Load: %v, %v", s, err)
	}
	return s
}

func TestP19_3_Load(t *testing.T) {
	for _, budget := range list(0, much) {
		s := example(t, bundleFile, budget)
		p := s.Save()
		if want, err := tables.Save(s.Tables()); err != nil || !bytes.Equal(p, want) {
			t.Errorf("P19.3: Save is not that of the tables: %v", err)
		}
		again := loaded(t, p)
		if !same(again.Tables(), s.Tables()) || !bytes.Equal(again.Save(), p) {
			t.Error("P19.3: what is loaded is not what was saved")
		}
		splits(t, "P19.3", again, "Hi. Mr. Fox. ok.", 0, 4, 16)
	}
	p := example(t, bundleFile, 0).Save()
	for _, c := range []struct {
		p    []byte
		want error
	}{
		{nil, api.ErrShort}, {p[:11], api.ErrShort}, {make([]byte, 12), api.ErrText}, {p[1:], api.ErrText}, {p[:len(p)-1], api.ErrSum}, {append(slices.Clone(p), 0), api.ErrSum},
		{[]byte("CAESURA\x01\x00\x00\x00\x00"), api.ErrSum}, {append(slices.Clone(p[:len(p)-4]), 0, 0, 0, 0), api.ErrSum}, {sealed("CAESURA\x01"), api.ErrForm}, {sealed(string(p[:len(p)-4]) + "\x00"), api.ErrForm},
	} {
		if s, err := breaker.Load(c.p); s != nil || err != c.want {
			t.Errorf("P19.3: Load(%x): %v, %v, want %v", c.p, s, err, c.want)
		}
	}
}

// handmade is tables that no Build makes: the plain pairing breaks nowhere, the merged one everywhere; the letters are two, the stray one a third.
func handmade() api.Tables {
	one := func() api.Machine {
		return api.Machine{Next: [][]int{list(0, 0, 0)}, Out: [][]int{nil}}
	}
	return api.Tables{
		Names: []string{"Other", "A"}, Spans: []api.Span{{Low: 'a', High: 'c', Name: 1}},
		Symbols: 3, Letters: []api.Span{{Low: 0, High: 0x7f}, {Low: 0x80, High: 0xd7ff, Name: 1}, {Low: 0xe000, High: 0x10ffff}}, Stray: 2,
		Plain: api.Pairing{Left: one(), Right: one()}, Merged: api.Pairing{Left: one(), Right: one(), Else: true}, Engine: api.Merged, Before: -1,
	}
}

func savedTables(t *testing.T, x api.Tables) []byte {
	t.Helper()
	p, err := tables.Save(x)
	if err != nil {
		t.Fatal(err)
	}
	return p
}

// Load does not ask whether both pairings belong together: each engine answers by its own one, and Split by the tables' engine.
func TestP19_6_OwnPairings(t *testing.T) {
	s := loaded(t, savedTables(t, handmade()))
	merged, err := s.SplitBy(api.Merged, "a\u00e9b")
	if err != nil || !slices.Equal(merged, list(0, 1, 3, 4)) {
		t.Errorf("P19.6: merged: %v, %v", merged, err)
	}
	filtered, err := s.SplitBy(api.Filtered, "a\u00e9b")
	if err != nil || !slices.Equal(filtered, list(0, 4)) {
		t.Errorf("P19.6: filtered: %v, %v", filtered, err)
	}
	if got := s.Split("a\u00e9b"); !slices.Equal(got, merged) {
		t.Errorf("P19.7: %v, want %v", got, merged)
	}
	if !same(s.Tables(), handmade()) {
		t.Error("P19.3: the tables of what was loaded")
	}
}

// P19.5: a pairing that breaks behind one symbol shows which units have it.
func TestP19_5_Symbols(t *testing.T) {
	points := list(0, 'a', 0x7f, 0x80, 0x7ff, 0x800, 0xd7ff, 0xe000, 0xfffd, 0x10000, 0x10ffff, api.Bad)
	symbols := list(0, 0, 0, 1, 1, 1, 1, 0, 0, 0, 0, 2)
	for symbol := range 3 {
		x := handmade()
		next := list(0, 0, 0)
		next[symbol] = 1
		x.Plain.Left = api.Machine{Next: [][]int{next, slices.Clone(next)}, Out: [][]int{nil, list(0)}}
		x.Plain.Right.Out[0] = list(0)
		x.Plain.Breaks = []bool{true}
		x.Engine, x.Merged = api.Filtered, api.Pairing{}
		s := loaded(t, savedTables(t, x))
		for i, point := range points {
			text := "\xff"
			if point != api.Bad {
				text = string(rune(point))
			}
			want := list(0, len(text)+1)
			if symbols[i] == symbol {
				want = list(0, len(text), len(text)+1)
			}
			splits(t, "P19.5", s, text+"a", want...)
		}
	}
}

func TestP19_8_Parts(t *testing.T) {
	d := newDrawn(198)
	s := example(t, bundleFile, much)
	for _, text := range d.texts(2000, 30, []string{"Mr.", ". "}) {
		got := s.Parts(text)
		if strings.Join(got, "") != text || slices.Contains(got, "") || len(got) != max(0, len(s.Split(text))-1) {
			t.Fatalf("P19.8: Parts(%q) = %q", text, got)
		}
		at := 0
		for i, part := range got {
			if s.Split(text)[i] != at {
				t.Fatalf("P19.8: Parts(%q) = %q", text, got)
			}
			at += len(part)
		}
	}
}
