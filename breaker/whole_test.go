package breaker_test

import (
	"bytes"
	"fmt"
	"maps"
	"slices"
	"strings"
	"testing"

	"caesura/api"
	"caesura/breaker"
	"caesura/rules"
)

// sample is files with the second version of what they say.
type sample struct {
	property, rules string
	entries         []string
	second          *second
}

func (d drawn) sample() sample {
	var s sample
	var classes map[rune]string
	s.property, classes = d.property()
	s.rules, s.second = d.rules(classes)
	s.entries = d.entries(5)
	return s
}

// is: a splitter answers as the second version, by each engine that it has.
func (s sample) is(t *testing.T, b *breaker.Splitter, text string) {
	t.Helper()
	splits(t, "W1", b, text, s.second.breaks(s.entries, text)...)
	if want := s.second.kinds(text); !slices.Equal(b.Kinds(text), want) {
		t.Errorf("P19.9: Kinds(%q) = %v, want %v", text, b.Kinds(text), want)
	}
	if t.Failed() {
		t.Fatalf("property %q, rules %q, entries %q", s.property, s.rules, s.entries)
	}
}

// W1: by whichever engine, under every budget, the answer is that of the page.
func TestW1_OneAnswer(t *testing.T) {
	d := newDrawn(1)
	engines := map[int]int{}
	for range 200 {
		s := d.sample()
		file := bundleOf(s.entries...)
		great := built(t, s.property, s.rules, file, "en", much)
		n := size(great.Tables().Merged)
		for _, budget := range list(0, n-1, n, much) {
			b := built(t, s.property, s.rules, file, "en", budget)
			engines[b.Engine()]++
			if (b.Engine() == api.Merged) != (budget >= n) {
				t.Errorf("P19.1: the budget %d of %d states: the engine %d", budget, n, b.Engine())
			}
			for _, text := range d.texts(5, 12, s.entries) {
				s.is(t, b, text)
				s.is(t, great, text)
			}
		}
	}
	if engines[api.Merged] < 350 || engines[api.Filtered] < 350 {
		t.Errorf("the engines: %v", engines)
	}
}

// P19.10: Split is rules.Breaks of the rules, the entries and the Kinds, as offsets; the budget changes Engine and Merged and nothing else.
func TestP19_10_Rules(t *testing.T) {
	d := newDrawn(1910)
	for range 300 {
		s := d.sample()
		r, _, err := rules.Parse(s.rules)
		if err != nil {
			t.Fatal(err)
		}
		small, great := built(t, s.property, s.rules, bundleOf(s.entries...), "en", 0), built(t, s.property, s.rules, bundleOf(s.entries...), "en", much)
		var entries [][]int
		for _, entry := range small.Tables().Entries {
			var l []int
			for _, point := range entry {
				l = append(l, int(point))
			}
			entries = append(entries, l)
		}
		for _, text := range d.texts(6, 14, s.entries) {
			_, offsets := lettersOf(text)
			var want []int
			for _, place := range rules.Breaks(r, entries, small.Kinds(text)) {
				want = append(want, offsets[place])
			}
			splits(t, "P19.10", small, text, want...)
			splits(t, "P19.10", great, text, want...)
		}
		x := great.Tables()
		x.Engine, x.Merged = api.Filtered, api.Pairing{}
		if !same(x, small.Tables()) {
			t.Fatalf("P19.10: the budget changes more than Engine and Merged: %q, %q", s.rules, s.entries)
		}
	}
}

func without(l []int, from []int) []int {
	return slices.DeleteFunc(slices.Clone(l), func(n int) bool { return slices.Contains(from, n) })
}

// W3: without entries B is what the rules alone say; more entries take boundaries away.
func TestW3_FewerBoundaries(t *testing.T) {
	d := newDrawn(3)
	gone := 0
	for i := range 300 {
		s := d.sample()
		budget := list(0, much)[i%2]
		more := slices.Compact(slices.Sorted(slices.Values(append(d.entries(5), s.entries...))))
		alone := built(t, s.property, s.rules, "", "en", budget)
		some, all := built(t, s.property, s.rules, bundleOf(s.entries...), "en", budget), built(t, s.property, s.rules, bundleOf(more...), "en", much-budget)
		for _, text := range d.texts(8, 14, more) {
			if got, want := alone.Split(text), s.second.breaks(nil, text); !slices.Equal(got, want) {
				t.Fatalf("W3: %q, %q: Split(%q) = %v without entries, want %v", s.property, s.rules, text, got, want)
			}
			if len(without(some.Split(text), alone.Split(text))) > 0 || len(without(all.Split(text), some.Split(text))) > 0 {
				t.Fatalf("W3: %q, %q, %q and %q: entries make a boundary: %q", s.property, s.rules, s.entries, more, text)
			}
			gone += len(alone.Split(text)) - len(all.Split(text))
		}
	}
	if gone < 500 {
		t.Errorf("W3: only %d boundaries were taken away", gone)
	}
}

// part is a section of a drawn bundle: its parent, if it names one, and its edits.
type part struct {
	parent string
	edits  []string
}

// drawnBundle has sections of some tags; each named parent stands ahead of its tag in the list, so that no chain goes round.
func (d drawn) drawnBundle(tags []string) (string, map[string]part) {
	sections := map[string]part{}
	for i, tag := range tags {
		if d.Intn(4) == 0 {
			continue
		}
		var p part
		if i > 0 && d.Intn(3) == 0 {
			p.parent = tags[d.Intn(i)]
		}
		for range d.Intn(6) {
			p.edits = append(p.edits, d.one("+", "+", "-")+d.one("a.", "b.", "Mr.", "z. B.", "é.", "a"))
		}
		sections[tag] = p
	}
	order := slices.Sorted(maps.Keys(sections))
	d.Shuffle(len(order), func(i, j int) { order[i], order[j] = order[j], order[i] })
	var b strings.Builder
	for _, tag := range order {
		fmt.Fprintf(&b, "[%s]\n", strings.ReplaceAll(tag, "_", d.one("_", "-")))
		if sections[tag].parent != "" {
			fmt.Fprintf(&b, "parent %s\n", sections[tag].parent)
		}
		for _, edit := range sections[tag].edits {
			fmt.Fprintf(&b, "%s %s\n", edit[:1], edit[1:])
		}
	}
	return b.String(), sections
}

// folded is what a tag suppresses: what its parent does, with its own edits behind that.
func folded(sections map[string]part, tag string) map[string]int {
	entries := map[string]int{}
	if tag != "root" {
		parent := sections[tag].parent
		if at := strings.LastIndex(tag, "_"); parent == "" && at >= 0 {
			parent = tag[:at]
		} else if parent == "" {
			parent = "root"
		}
		entries = folded(sections, parent)
	}
	for _, edit := range sections[tag].edits {
		if edit[0] == '+' {
			entries[edit[1:]] = 1
		} else {
			delete(entries, edit[1:])
		}
	}
	return entries
}

// W4: what a locale suppresses is a fold along its chain from the root on.
func TestW4_Chain(t *testing.T) {
	d := newDrawn(4)
	tags := []string{"root", "en", "de", "en_US", "de_AT", "en_US_x", "de_Latn", "de_Latn_CH"}
	for i := range 40 {
		file, sections := d.drawnBundle(tags)
		for _, tag := range append(tags, "fr", "en_GB", "de_AT_1996") {
			want := slices.Sorted(maps.Keys(folded(sections, tag)))
			s := built(t, classesFile, rulesFile, file, strings.ToUpper(tag), list(0, much)[i%2])
			if got := s.Tables().Entries; !slices.Equal(got, want) {
				t.Fatalf("W4: %q, %s: %q, want %q", file, tag, got, want)
			}
			same := built(t, classesFile, rulesFile, bundleOf(want...), "root", list(0, much)[i%2])
			text := "X a. X b. X Mr. X z. B. X é. X aX."
			if !slices.Equal(s.Split(text), same.Split(text)) {
				t.Fatalf("W4: %q, %s: %v, want %v", file, tag, s.Split(text), same.Split(text))
			}
		}
	}
}

// W6: what is loaded answers as what was saved, and is written back to the same bytes; one changed byte is refused.
func TestW6_Bytes(t *testing.T) {
	d := newDrawn(6)
	for i := range 120 {
		s := d.sample()
		b := built(t, s.property, s.rules, bundleOf(s.entries...), "en", list(0, much)[i%2])
		p := b.Save()
		again := loaded(t, p)
		if !bytes.Equal(again.Save(), p) || !same(again.Tables(), b.Tables()) {
			t.Fatalf("W6: %q, %q, %q: loaded, it is another one", s.property, s.rules, s.entries)
		}
		for _, text := range d.texts(8, 14, s.entries) {
			s.is(t, again, text)
			if !slices.Equal(again.Parts(text), b.Parts(text)) {
				t.Fatalf("W6: Parts(%q) = %q, want %q", text, again.Parts(text), b.Parts(text))
			}
		}
		for at := range p {
			q := bytes.Clone(p)
			q[at] ^= byte(1 + d.Intn(255))
			if l, err := breaker.Load(q); l != nil || err == nil {
				t.Fatalf("W6: byte %d of %d changed is loaded", at, len(p))
			}
		}
	}
}

// W6 speaks of all splitters, those that no Build makes too.
func TestW6_Handmade(t *testing.T) {
	p := savedTables(t, handmade())
	s := loaded(t, p)
	if !bytes.Equal(s.Save(), p) {
		t.Error("W6: it is written back to other bytes")
	}
	again := loaded(t, s.Save())
	for _, text := range newDrawn(66).texts(300, 12, nil) {
		if !slices.Equal(again.Split(text), s.Split(text)) || !slices.Equal(again.Kinds(text), s.Kinds(text)) {
			t.Fatalf("W6: %q", text)
		}
	}
}

// apart counts the states that are reached and that some word tells from one another, by making the parts finer until none falls apart.
func apart(m api.Machine) int {
	reached := map[int]int{m.Start: 1}
	for todo := list(m.Start); len(todo) > 0; todo = todo[1:] {
		for _, to := range m.Next[todo[0]] {
			if reached[to] == 0 {
				reached[to] = 1
				todo = append(todo, to)
			}
		}
	}
	part := map[int]string{}
	for state := range reached {
		part[state] = fmt.Sprint(m.Out[state])
	}
	for count := 0; ; {
		finer, numbers := map[int]string{}, map[string]int{}
		for _, state := range slices.Sorted(maps.Keys(reached)) {
			form := part[state]
			for _, to := range m.Next[state] {
				form += "|" + part[to]
			}
			if _, ok := numbers[form]; !ok {
				numbers[form] = len(numbers)
			}
			finer[state] = fmt.Sprint(numbers[form])
		}
		part = finer
		if len(numbers) == count {
			return count
		}
		count = len(numbers)
	}
}

// W11: no state of a splitter's machines is never reached, and no two say the same.
func TestW11_Least(t *testing.T) {
	d := newDrawn(11)
	for range 200 {
		s := d.sample()
		x := built(t, s.property, s.rules, bundleOf(s.entries...), "en", much).Tables()
		for i, m := range []api.Machine{x.Plain.Left, x.Plain.Right, x.Merged.Left, x.Merged.Right} {
			if n := apart(m); n != len(m.Next) || len(m.Out) != n {
				t.Fatalf("W11: machine %d of %q, %q, %q has %d states, %d would do", i, s.property, s.rules, s.entries, len(m.Next), n)
			}
		}
	}
}

// sizes is the number of states of each machine.
func sizes(x api.Tables) []int {
	return list(len(x.Plain.Left.Next), len(x.Plain.Right.Next), len(x.Merged.Left.Next), len(x.Merged.Right.Next))
}

// W11: the numbers of states hang on the patterns alone, not on how they are written down.
func TestW11_HowMade(t *testing.T) {
	want := built(t, classesFile, rulesFile, "[root]\n+ Mr.\n+ Dr.\n", "root", much).Tables()
	for i, c := range []struct{ property, rules, bundle, tag string }{
		{classesFile, rulesFile, "[root]\n+ Dr.\n+ Mr.\n", "root"},
		{classesFile, rulesFile, "[en]\n- a\n+ Dr.\n[root]\n+ Mr.\n+ a", "en-us"},
		{"0020;Sp\n002E;ATerm\n0061..006A;Lower\n006B..007A;Lower\n0041..005A;Upper", rulesFile, "[root]\n+ Mr.\n+ Dr.\n", "root"},
		{"0041..005A;C1\n0061..007A;C2\n002E;C3\n0020;C4", "suppress C4\nA: C3 C4* >< C2\nB: C3 >< C4\nC: C3 C4+ >< C4\nD: C3 C4* <>\nelse ><", "[root]\n+ Mr.\n+ Dr.\n", "root"},
		{classesFile, "let S = [Sp]\nsuppress [S S]\nA: ATerm (S*)* >< (Lower | Lower)\nB: ATerm >< Sp Sp*\nC: (() | ()) ATerm Sp Sp* >< S\nD: [ATerm] (Sp+)? <> ()\nelse ><", "[root]\n+ Mr.\n+ Dr.\n", "root"},
		{classesFile, "let T = '.'\nlet S = ' '\nsuppress S\nA: T S* >< ['a'..'m' 'n'..'z']\nB: T >< S\nC: T S+ >< S\nD: T S* <>\nelse ><", "[root]\n+ Mr.\n+ Dr.\n", "root"},
		{classesFile, "suppress Sp\nA: [^]* ATerm Sp* >< Lower [^]*\nB: ATerm >< Sp\nC: ATerm Sp+ >< Sp\nD: ATerm Sp* <>\nelse ><", "[root]\n+ Mr.\n+ Dr.\n", "root"},
	} {
		if got := built(t, c.property, c.rules, c.bundle, c.tag, much).Tables(); !slices.Equal(sizes(got), sizes(want)) {
			t.Errorf("W11: way %d: %v states, want %v", i, sizes(got), sizes(want))
		}
	}
}

// W12: what the grammars have, up to the limits, is read.
func TestW12_Read(t *testing.T) {
	long, wide := strings.Repeat("n", api.MaxName), strings.Repeat("a", api.MaxEntry)
	var names, sections, rules, lets strings.Builder
	for i := range api.MaxNames {
		fmt.Fprintf(&names, "%04x ; N%d\r\n", i, i)
	}
	for i := range api.MaxSections {
		fmt.Fprintf(&sections, "[aa-%d]\n", i)
	}
	for i := range api.MaxRules {
		fmt.Fprintf(&rules, "R%d: ><\n", i)
		fmt.Fprintf(&lets, "let L%d = A\n", i)
	}
	for i, c := range []struct{ property, rules, bundle string }{
		{"", "else <>", ""},
		{"# nothing\n \t\n", "# nothing\n\nelse >< # at last", "# nothing\n\n"},
		{names.String(), "else <>", ""},
		{"0041;" + long, long + ": " + long + " ><\nelse <>", "[root]\n+" + wide},
		{"0041;A", lets.String() + rules.String() + "else <>", sections.String()},
		{"0041;A", "A: " + strings.Repeat("(", api.MaxNest) + "A" + strings.Repeat(")", api.MaxNest) + "* ><\nelse <>", "[zz]\nparent zz\n"},
		{"#" + strings.Repeat(" ", api.MaxFile-1), "else <>#" + strings.Repeat("\xff", api.MaxFile-8), "#" + strings.Repeat("\x00", api.MaxFile-1)},
		{"0041;A", "A: Nobody ><\nelse <>", "[en]\nparent xx\n- never\n"},
	} {
		if s, err := breaker.Build(c.property, c.rules, c.bundle, "en", 10); s == nil || err != nil {
			t.Errorf("W12: number %d: %v", i, err)
		}
	}
	for _, tag := range []string{"en", "EN-us", "root", "zh_Hant_TW", "aa_1_2_3_4_5_6_7_8_9_a_b_c_d"} {
		built(t, classesFile, rulesFile, bundleFile, tag, 10)
	}
}

// W12: what stands outside a grammar, above a limit, twice, out of order is refused.
func TestW12_Refused(t *testing.T) {
	var names, sections, rules, lets strings.Builder
	for i := range api.MaxNames + 1 {
		fmt.Fprintf(&names, "%04x ; N%d\n", i, i)
	}
	for i := range api.MaxSections + 1 {
		fmt.Fprintf(&sections, "[aa-%d]\n", i)
	}
	for i := range api.MaxRules + 1 {
		fmt.Fprintf(&rules, "R%d: ><\n", i)
		fmt.Fprintf(&lets, "let L%d = A\n", i)
	}
	long, file := strings.Repeat("n", api.MaxName+1), strings.Repeat("#", api.MaxFile+1)
	for text, want := range map[string]error{
		"0041": api.ErrText, "0041;A B": api.ErrText, "0041;" + long: api.ErrText, "0041;A\r": api.ErrText, "41;A": api.ErrText, "0041;Other": api.ErrArg, "110000;A": api.ErrArg,
		"0042..0041;A": api.ErrOrder, "0041..0043;A\n0043;A": api.ErrTwice, names.String(): api.ErrMany, file: api.ErrMany,
	} {
		refused(t, "W12: the property", text, rulesFile, bundleFile, "en", want)
	}
	for text, want := range map[string]error{
		"else": api.ErrText, "else <>\nA: ><": api.ErrText, "A: . ><\nelse <>": api.ErrText, "A: " + long + " ><\nelse <>": api.ErrText, "# all": api.ErrShort, "A: ><": api.ErrShort,
		"A: ><\nA: <>\nelse <>": api.ErrTwice, "skip A\nskip A\nelse <>": api.ErrTwice, "suppress\nsuppress\nelse <>": api.ErrTwice, "let A = B\nlet A = B\nelse <>": api.ErrTwice,
		"A: 'b'..'a' ><\nelse <>": api.ErrOrder, "A: B ><\nlet B = C\nelse <>": api.ErrOrder, "let N = [^ A]\nB: [N C] ><\nelse <>": api.ErrArg,
		rules.String() + "else <>": api.ErrMany, lets.String() + "else <>": api.ErrMany, "A: " + strings.Repeat("(", 33) + strings.Repeat(")", 33) + "><\nelse <>": api.ErrMany, file: api.ErrMany,
	} {
		refused(t, "W12: the rules", classesFile, text, bundleFile, "en", want)
	}
	for text, want := range map[string]error{
		"[e]": api.ErrText, "+ a": api.ErrText, "[en]\n+": api.ErrText, "[en]\n+ \\x": api.ErrText, "[en]\n+ \xff": api.ErrText, "[root_US]": api.ErrText, "[en]\n[EN]": api.ErrTwice, "[en]\nparent de\nparent de": api.ErrTwice,
		"[en]\n+ a\nparent de": api.ErrOrder, "[root]\nparent en": api.ErrArg, "[en]\n+" + strings.Repeat("a", 33): api.ErrMany, sections.String(): api.ErrMany, file: api.ErrMany, "[en]\n" + strings.Repeat("+a\n", 20001): api.ErrMany,
		"[en]\nparent en": api.ErrCycle,
	} {
		refused(t, "W12: the bundle", classesFile, rulesFile, text, "en", want)
	}
	for _, tag := range []string{"", "e", "en-", "en us", "root-us", strings.Repeat("abc_", 17) + "abc"} {
		refused(t, "W12: the tag", classesFile, rulesFile, bundleFile, tag, api.ErrText)
	}
	refused(t, "W12: the chain", classesFile, rulesFile, bundleFile, "aa_1_2_3_4_5_6_7_8_9_a_b_c_d_e_f", api.ErrMany)
}

// spoiled is a file in which a byte or two are others.
func (d drawn) spoiled(text string) string {
	for range d.Intn(3) {
		at := d.Intn(len(text) + 1)
		switch d.Intn(4) {
		case 0:
			text = text[:at] + d.one("\n", "#", ";", "A", "0", "]", "<", "\\", "\xff", "'", "+", "..") + text[at:]
		case 1:
			text = text[:at] + text[min(at+1, len(text)):]
		case 2:
			text = text[:at] + text[min(at+d.Intn(12), len(text)):] + text[:at]
		case 3:
			text = text[:strings.LastIndex(text[:at], "\n")+1]
		}
	}
	return text
}

// The refusals of the steps come in their order, whatever the files are.
func TestP19_1_Spoiled(t *testing.T) {
	d := newDrawn(1901)
	told := map[error]int{}
	for range 4000 {
		property, rules, bundle := d.spoiled(classesFile), d.spoiled(rulesFile), d.spoiled("[root]\n+ Mr.\n[en]\nparent de\n- Mr.\n")
		tag, budget := d.spoiled("en_US"), d.Intn(60)-2
		want, wanted := tablesBy(property, rules, bundle, tag, budget)
		if budget < 0 {
			want, wanted = api.Tables{}, api.ErrArg
		}
		told[wanted]++
		s, err := breaker.Build(property, rules, bundle, tag, budget)
		if err != wanted || (s == nil) != (wanted != nil) || s != nil && !same(s.Tables(), want) {
			t.Fatalf("P19.1: Build(%q, %q, %q, %q, %d): %v, want %v", property, rules, bundle, tag, budget, err, wanted)
		}
	}
	for _, err := range []error{nil, api.ErrArg, api.ErrText, api.ErrTwice, api.ErrShort} {
		if told[err] < 40 {
			t.Errorf("%v: %d samples", err, told[err])
		}
	}
}
