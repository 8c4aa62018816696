package edit_test

import (
	"fmt"
	"math"
	"slices"
	"strings"
	"testing"

	"caesura/api"
	"caesura/breaker"
	"caesura/edit"
)

// The files of the chapter's examples.
const (
	classesFile = "0041..005A ; Upper\n0061..007A ; Lower\n002E ; ATerm\n0020 ; Sp\n"
	rulesFile   = "suppress Sp\nA: ATerm Sp* >< Lower\nB: ATerm >< Sp\nC: ATerm Sp+ >< Sp\nD: ATerm Sp* <>\nelse ><\n"
	bundleFile  = "[root]\n+ Mr.\n"
)

const much = 1 << 20

func list(n ...int) []int { return n }

// brief is a list's text, or its beginning.
func brief(l []int) string { return fmt.Sprintf("%.300s", fmt.Sprint(l)) }

// built is a splitter that must be.
func built(t *testing.T, rules, bundle string, budget int) *breaker.Splitter {
	t.Helper()
	s, err := breaker.Build(classesFile, rules, bundle, "en", budget)
	if err != nil {
		t.Fatalf("Build(%q, %q, %d): %v", rules, bundle, budget, err)
	}
	return s
}

// each is the splitters of files by both engines, built and loaded.
func each(t *testing.T, rules, bundle string) []*breaker.Splitter {
	t.Helper()
	var all []*breaker.Splitter
	for _, budget := range list(0, much) {
		s := built(t, rules, bundle, budget)
		again, err := breaker.Load(s.Save())
		if err != nil {
			t.Fatal(err)
		}
		all = append(all, s, again)
	}
	return all
}

// stands: a document has this text, and these boundaries.
func stands(t *testing.T, promise string, d *edit.Doc, text string, breaks ...int) {
	t.Helper()
	if d.Text() != text || !slices.Equal(d.Breaks(), breaks) {
		t.Errorf("%s: %.100q, %s, want %.100q, %s", promise, d.Text(), brief(d.Breaks()), text, brief(breaks))
	}
}

// step is a Replace, and what it answers.
type step struct {
	a, b       int
	text       string
	gone, come []int
}

// changes: a document that is not refused tells so what has gone and what has come.
func changes(t *testing.T, promise string, d *edit.Doc, steps ...step) {
	t.Helper()
	for _, c := range steps {
		ahead := d.Text()
		gone, come, err := d.Replace(c.a, c.b, c.text)
		if !slices.Equal(gone, c.gone) || !slices.Equal(come, c.come) || err != nil {
			t.Errorf("%s: %.100q: Replace(%d, %d, %.100q) = %s, %s, %v, want %s, %s", promise, ahead, c.a, c.b, c.text, brief(gone), brief(come), err, brief(c.gone), brief(c.come))
		}
	}
}

// undone: Undo answers this error.
func undone(t *testing.T, d *edit.Doc, want error) {
	t.Helper()
	if err := d.Undo(); err != want {
		t.Errorf("P22.3: %.100q: Undo() = %v, want %v", d.Text(), err, want)
	}
}

// refused: numbers that are out of their place; nothing has changed then.
func refused(t *testing.T, d *edit.Doc, pairs ...[2]int) {
	t.Helper()
	text, breaks := d.Text(), d.Breaks()
	for _, p := range pairs {
		for _, put := range []string{"", "x", "A. B. ", text} {
			gone, come, err := d.Replace(p[0], p[1], put)
			if len(gone) != 0 || len(come) != 0 || err != api.ErrArg {
				t.Errorf("P22.2: %q: Replace(%d, %d, %q) = %v, %v, %v, want ErrArg", text, p[0], p[1], put, gone, come, err)
			}
			stands(t, "P22.2: behind a refusal", d, text, breaks...)
		}
	}
}

func TestP22_Examples(t *testing.T) {
	for _, s := range each(t, rulesFile, bundleFile) {
		d := edit.New(s, "Hi. Mr. Fox.")
		stands(t, "P22.1", d, "Hi. Mr. Fox.", 0, 4, 12)
		changes(t, "P22.2", d, step{4, 6, "Ms", nil, list(8)})
		stands(t, "P22.4", d, "Hi. Ms. Fox.", 0, 4, 8, 12)
		undone(t, d, nil)
		stands(t, "P22.3", d, "Hi. Mr. Fox.", 0, 4, 12)
		undone(t, d, api.ErrEnd)
		changes(t, "P22.2", d, step{0, 4, "", nil, nil})
		stands(t, "P22.4", d, "Mr. Fox.", 0, 8)
		changes(t, "P22.2", d, step{0, 0, "A. ", nil, list(3)})
		stands(t, "P22.4", d, "A. Mr. Fox.", 0, 3, 11)
		refused(t, d, [2]int{2, 1}, [2]int{-1, 0}, [2]int{0, 12})
		changes(t, "P22.2", d, step{0, 11, "", list(0, 3, 11), nil})
		stands(t, "P22.4", d, "")
	}
}

// The eighth example of the document.
func TestP22_2_ExampleOfTheWhole(t *testing.T) {
	for _, s := range each(t, rulesFile, bundleFile) {
		d := edit.New(s, "He left. she")
		stands(t, "P22.1", d, "He left. she", 0, 12)
		changes(t, "P22.2", d, step{9, 10, "S", nil, list(9)})
		undone(t, d, nil)
		stands(t, "P22.3", d, "He left. she", 0, 12)
	}
}

func TestP22_1_New(t *testing.T) {
	for _, s := range each(t, rulesFile, bundleFile) {
		for text, breaks := range map[string][]int{"": nil, "a": list(0, 1), "\xff": list(0, 1), "\x00": list(0, 1), "é. €. A": list(0, 4, 9, 10), "\xe2\x82. Mr. \xe2\x82.": list(0, 4, 11), "Mr. Mr. A": list(0, 9)} {
			d := edit.New(s, text)
			stands(t, "P22.1", d, text, breaks...)
			stands(t, "P22.1: asked again", d, text, breaks...)
			undone(t, d, api.ErrEnd)
			stands(t, "P22.1: behind an Undo", d, text, breaks...)
		}
	}
}

func TestP22_2_Refusals(t *testing.T) {
	s := built(t, rulesFile, bundleFile, much)
	least, most := math.MinInt, math.MaxInt
	for _, text := range []string{"", "a", "A. B. Mr. C", "é\xe2\x82"} {
		n := len(text)
		d := edit.New(s, text)
		wrong := [][2]int{{-1, -1}, {-1, 0}, {-1, n}, {0, -1}, {1, 0}, {n, n - 1}, {n, n + 1}, {0, n + 1}, {n + 1, n + 1}, {n + 1, n}, {n + 1, 0}, {n + 2, n + 1}, {-2, n + 1}, {least, least}, {least, 0}, {least, most}, {most, most}, {most, least}, {0, most}, {n, most}, {0, least}, {most, 0}, {1 << 62, 1 << 62}, {least + 1, n}, {most - 1, most}}
		refused(t, d, wrong...)
		undone(t, d, api.ErrEnd)
		// refusals among changes count as none
		if _, _, err := d.Replace(0, n, "Hi. A"); err != nil {
			t.Fatal(err)
		}
		refused(t, d, [2]int{-1, 0}, [2]int{0, 6}, [2]int{6, 6}, [2]int{5, 4})
		undone(t, d, nil)
		refused(t, d, wrong...)
		stands(t, "P22.3", d, text, s.Split(text)...)
		undone(t, d, api.ErrEnd)
	}
}

// The edges of a and b are the text's ends, and each other.
func TestP22_2_Ends(t *testing.T) {
	s := built(t, rulesFile, bundleFile, much)
	d := edit.New(s, "")
	changes(t, "P22.2", d,
		step{0, 0, "", nil, nil},
		step{0, 0, "B.", nil, list(0, 2)},
		// what is put in at the text's end: the old end stays where it is, and the new one has come
		step{2, 2, " C.", list(2), list(3, 5)},
		step{5, 5, "D", nil, list(6)},
		// at its beginning: 0 stays ahead, and is the image of no other one
		step{0, 0, "A. ", nil, list(3)},
		step{0, 0, "x", nil, nil},
		step{10, 10, "", nil, nil},
		step{0, 10, "xA. B. C.D", list(4, 7, 9), list(4, 7, 9)},
		step{9, 10, "", nil, nil},
		step{0, 1, "", nil, nil},
	)
	stands(t, "P22.2", d, "A. B. C.", 0, 3, 6, 8)
	changes(t, "P22.2", d, step{0, 8, "", list(0, 3, 6, 8), nil})
	stands(t, "P22.2", d, "")
	for range 11 {
		undone(t, d, nil)
	}
	undone(t, d, api.ErrEnd)
}

// A boundary inside what is taken out has no image: it has gone, and one at the same offset has come, though the text is the same.
func TestP22_2_SameText(t *testing.T) {
	s := built(t, rulesFile, bundleFile, much)
	text := "A. B. C."
	for _, c := range []step{
		{2, 4, " B", list(3), list(3)},
		{3, 6, "B. ", nil, nil},
		{2, 7, " B. C", list(3, 6), list(3, 6)},
		{3, 3, "", nil, nil},
		{0, 8, text, list(3, 6), list(3, 6)},
		{0, 3, "A. ", nil, nil},
		{6, 8, "C.", nil, nil},
		{5, 8, " C.", list(6), list(6)},
	} {
		d := edit.New(s, text)
		changes(t, "P22.2", d, c)
		stands(t, "P22.2", d, text, 0, 3, 6, 8)
		undone(t, d, nil)
		stands(t, "P22.3", d, text, 0, 3, 6, 8)
		undone(t, d, api.ErrEnd)
	}
}

// Where nothing is put in, a and b have one image: neither has gone if it is a boundary, both if not, whatever stood between them.
func TestP22_2_OneImage(t *testing.T) {
	everywhere := built(t, "else <>", "", 9)
	s := built(t, rulesFile, bundleFile, much)
	for _, c := range []struct {
		s    *breaker.Splitter
		text string
		step step
	}{
		{everywhere, "abcdef", step{2, 4, "", list(3), nil}},
		{everywhere, "abcdef", step{1, 5, "", list(2, 3, 4), nil}},
		{everywhere, "abcdef", step{2, 3, "", nil, nil}},
		{everywhere, "abcdef", step{0, 5, "", list(1, 2, 3, 4), nil}},
		{everywhere, "abcdef", step{1, 6, "", list(2, 3, 4, 5), nil}},
		{everywhere, "abcdef", step{0, 6, "", list(0, 1, 2, 3, 4, 5, 6), nil}},
		{s, "A. B. C. D", step{3, 6, "", nil, nil}},
		{s, "A. B. C. D", step{3, 9, "", list(6), nil}},
		// "Mr. D": behind the entry there is none
		{s, "Mr.A. D", step{3, 5, "", list(6), nil}},
		{s, "A. B. c", step{3, 6, "", list(3), nil}},
		// the image of both is no boundary
		{built(t, "A: 'a' >< 'd'\nelse <>", "", much), "abcd", step{1, 3, "", list(1, 2, 3), nil}},
	} {
		d := edit.New(c.s, c.text)
		changes(t, "P22.2", d, c.step)
		undone(t, d, nil)
		stands(t, "P22.3", d, c.text, c.s.Split(c.text)...)
	}
}

// Offsets may lie inside units, what is put in may end inside one: the units are those of the text behind the change.
func TestP22_4_Units(t *testing.T) {
	everywhere := built(t, "else <>", "", 9)
	d := edit.New(everywhere, "a")
	changes(t, "P22.4", d,
		step{1, 1, "\xe2", nil, list(2)},
		step{2, 2, "\x82", nil, list(3)},
		// € becomes one unit: the boundaries inside it have gone
		step{3, 3, "\xac", list(2, 3), list(4)},
		step{4, 4, "b", nil, list(5)},
		// and comes apart: three bad units about a letter
		step{2, 2, "x", nil, list(2, 3, 4)},
		step{2, 3, "", list(2, 3, 4), nil},
		step{3, 4, "", nil, list(2)},
		step{1, 3, "\xc3\xa9", list(2), nil},
	)
	stands(t, "P22.4", d, "aéb", 0, 1, 3, 4)
	for _, want := range []string{"a\xe2\x82b", "a€b", "a\xe2x\x82\xacb", "a€b", "a€", "a\xe2\x82", "a\xe2", "a"} {
		undone(t, d, nil)
		stands(t, "P22.3", d, want, everywhere.Split(want)...)
	}
	undone(t, d, api.ErrEnd)
}

// A change may move boundaries far away from it, to both sides.
func TestP22_4_Far(t *testing.T) {
	s := built(t, "A: ^ 'x' [^]* 'a' <>\nB: 'b' <> [^]* 'y' $\nelse ><", "", much)
	filler := strings.Repeat("\xff€.", 3000) // 15000 bytes
	text := "b" + filler + "a" + filler + "-"
	d := edit.New(s, text)
	stands(t, "P22.1", d, text, 0, 30003)
	changes(t, "P22.4", d,
		step{30002, 30003, "y", nil, list(1)},
		step{0, 0, "x", nil, list(15003)},
		step{0, 1, "z", list(15003), nil},
		step{30003, 30004, "", list(2), nil},
	)
	for _, breaks := range [][]int{{0, 2, 30004}, {0, 2, 15003, 30004}, {0, 1, 30003}, {0, 30003}} {
		undone(t, d, nil)
		stands(t, "P22.3", d, d.Text(), breaks...)
	}
	if d.Text() != text {
		t.Error("P22.3: the text is another one")
	}
}

// Undos go back change by change, those that changed nothing too; a Replace behind an Undo is a change like others.
func TestP22_3_Undo(t *testing.T) {
	for _, s := range each(t, rulesFile, bundleFile) {
		d := edit.New(s, "A. B")
		for range 2 {
			changes(t, "P22.2", d, step{3, 4, "b", list(3), nil}, step{0, 0, "", nil, nil}, step{0, 1, "Mr", nil, nil})
			stands(t, "P22.2", d, "Mr. b", 0, 5)
			undone(t, d, nil)
			stands(t, "P22.3", d, "A. b", 0, 4)
			changes(t, "P22.2", d, step{3, 4, "C", nil, list(3)}, step{4, 4, ". D", list(4), list(6, 7)})
			stands(t, "P22.2", d, "A. C. D", 0, 3, 6, 7)
			undone(t, d, nil)
			stands(t, "P22.3", d, "A. C", 0, 3, 4)
			undone(t, d, nil)
			stands(t, "P22.3", d, "A. b", 0, 4)
			undone(t, d, nil) // the one that put nothing in the place of nothing
			stands(t, "P22.3", d, "A. b", 0, 4)
			undone(t, d, nil)
			stands(t, "P22.3", d, "A. B", 0, 3, 4)
			undone(t, d, api.ErrEnd)
			undone(t, d, api.ErrEnd)
			stands(t, "P22.3: behind all", d, "A. B", 0, 3, 4)
		}
	}
}

// Load does not ask whether both pairings belong together: a document has the boundaries of Split (W8).
func TestW8_Loaded(t *testing.T) {
	x := built(t, rulesFile, "", much).Tables()
	x.Merged.Else = true
	for i := range x.Merged.Breaks {
		x.Merged.Breaks[i] = !x.Merged.Breaks[i]
	}
	s := loaded(t, x)
	filtered, err := s.SplitBy(api.Filtered, "A. B")
	if err != nil || slices.Equal(filtered, s.Split("A. B")) {
		t.Fatalf("the engines are to differ: %v, %v", filtered, err)
	}
	d := edit.New(s, "A. B")
	stands(t, "W8", d, "A. B", s.Split("A. B")...)
	if _, _, err := d.Replace(1, 1, "b. C"); err != nil {
		t.Fatal(err)
	}
	stands(t, "W8", d, "Ab. C. B", s.Split("Ab. C. B")...)
	undone(t, d, nil)
	stands(t, "W8", d, "A. B", s.Split("A. B")...)
}

// A text has no limit.
func TestP22_2_Long(t *testing.T) {
	s := built(t, rulesFile, bundleFile, much)
	const count = 40000
	text := strings.Repeat("Hi. Mr. Fox é. ", count) // 16 bytes each, with boundaries at 0 and 4
	d := edit.New(s, text)
	var gone, all []int
	for i := range count {
		all = append(all, 16*i, 16*i+4)
	}
	all = append(all, 16*count)
	stands(t, "P22.1", d, text, all...)
	changes(t, "P22.2", d, step{16*count/2 + 4, 16*count/2 + 6, "Ms", nil, list(16*count/2 + 8)})
	for _, offset := range all {
		if offset > 3 && offset < 16*count-3 {
			gone = append(gone, offset)
		}
	}
	gone = slices.Insert(gone, slices.Index(gone, 16*count/2+4)+1, 16*count/2+8)
	changes(t, "P22.2", d, step{3, 16*count - 3, "", gone, list(3)})
	stands(t, "P22.2", d, "Hi.\xa9. ", 0, 3, 6)
	undone(t, d, nil)
	undone(t, d, nil)
	stands(t, "P22.3", d, text, all...)
}
