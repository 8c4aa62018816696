package cursor_test

import (
	"bytes"
	"fmt"
	"math"
	"math/rand"
	"slices"
	"strings"
	"testing"

	"caesura/api"
	"caesura/breaker"
	"caesura/bundle"
	"caesura/cursor"
	"caesura/locale"
	"caesura/rules"
	"caesura/units"
)

// second is a second version: a place in a sorted list, by the chapter's words, gone through one by one.
type second struct {
	text  string
	list  []int
	place int
}

func (s *second) goTo(place int) int {
	s.place = place
	return s.list[place]
}

// nearest goes to the first of these numbers of boundaries for which yes holds.
func (s *second) nearest(numbers []int, yes func(offset int) bool) int {
	for _, i := range numbers {
		if yes(s.list[i]) {
			return s.goTo(i)
		}
	}
	return done
}

func (s *second) rising() []int {
	var all []int
	for i := range s.list {
		all = append(all, i)
	}
	return all
}

func (s *second) falling() []int {
	all := s.rising()
	slices.Reverse(all)
	return all
}

// current is its place as an offset.
func (s *second) current() int {
	if len(s.list) == 0 {
		return done
	}
	return s.list[s.place]
}

// move goes one by one, and comes back if there are not so many.
func (s *second) move(n int) int {
	start, at := s.place, s.current()
	for ; n > 0 && at != done; n-- {
		at = s.nearest(s.rising(), func(offset int) bool { return offset > at })
	}
	for ; n < 0 && at != done; n++ {
		at = s.nearest(s.falling(), func(offset int) bool { return offset < at })
	}
	if at == done {
		s.place = start
	}
	return at
}

func (s *second) part() string {
	if len(s.list) == 0 || s.place == len(s.list)-1 {
		return ""
	}
	return s.text[s.list[s.place]:s.list[s.place+1]]
}

// call is a call's name and its number, if it takes one.
type call struct {
	name string
	n    int
}

func (s *second) ask(c call) string {
	answer := done
	switch c.name {
	case "Current":
		answer = s.current()
	case "First":
		answer = s.nearest(s.rising(), func(int) bool { return true })
	case "Last":
		answer = s.nearest(s.falling(), func(int) bool { return true })
	case "Next":
		answer = s.move(1)
	case "Previous":
		answer = s.move(-1)
	case "Following":
		answer = s.nearest(s.rising(), func(offset int) bool { return offset > c.n })
	case "Preceding":
		answer = s.nearest(s.falling(), func(offset int) bool { return offset < c.n })
	case "IsBoundary":
		return fmt.Sprint(slices.Contains(s.list, c.n))
	case "Move":
		answer = s.move(c.n)
	case "Part":
		return fmt.Sprintf("%q", s.part())
	}
	return fmt.Sprint(answer)
}

// asked is what a cursor answers.
func asked(x *cursor.Cursor, c call) string {
	switch c.name {
	case "IsBoundary":
		return fmt.Sprint(x.IsBoundary(c.n))
	case "Part":
		return fmt.Sprintf("%q", x.Part())
	}
	plain := map[string]func() int{"Current": x.Current, "First": x.First, "Last": x.Last, "Next": x.Next, "Previous": x.Previous}
	if f, ok := plain[c.name]; ok {
		return fmt.Sprint(f())
	}
	return fmt.Sprint(map[string]func(int) int{"Following": x.Following, "Preceding": x.Preceding, "Move": x.Move}[c.name](c.n))
}

var names = []string{"Current", "First", "Last", "Next", "Previous", "Following", "Preceding", "IsBoundary", "Move", "Part"}

// calls are all calls, with each number that lies about a text of this length.
func calls(length int) []call {
	numbers := list(math.MinInt, math.MinInt+1, math.MaxInt-1, math.MaxInt)
	for n := -length - 2; n <= length+2; n++ {
		numbers = append(numbers, n)
	}
	var all []call
	for i, name := range names {
		if i < 5 || name == "Part" {
			all = append(all, call{name, 0})
			continue
		}
		for _, n := range numbers {
			all = append(all, call{name, n})
		}
	}
	return all
}

// boundaries are B(P, R, X, t), by the words of the rules and not by a splitter's engine.
func boundaries(t *testing.T, kinds []api.Kind, rulesText, bundleText, text string) []int {
	t.Helper()
	r, _, err := rules.Parse(rulesText)
	if err != nil {
		t.Fatal(err)
	}
	b, _, err := bundle.Parse(bundleText)
	if err != nil {
		t.Fatal(err)
	}
	resolved, err := locale.Resolve(b, "en")
	if err != nil {
		t.Fatal(err)
	}
	var entries [][]int
	for _, entry := range resolved {
		var points []int
		for _, letter := range entry {
			points = append(points, int(letter))
		}
		entries = append(entries, points)
	}
	starts := list()
	for _, u := range units.Split(text) {
		starts = append(starts, u.Start)
	}
	starts = append(starts, len(text))
	var offsets []int
	for _, place := range rules.Breaks(r, entries, kinds) {
		offsets = append(offsets, starts[place])
	}
	return offsets
}

const classes = "0041..005A ; Upper\n0061..007A ; Lower\n002E ; ATerm\n0020 ; Sp\n"

// files are rules and bundles of several kinds: few boundaries, many, with entries in the way and without.
func files() [][2]string {
	return [][2]string{
		{"suppress Sp\nA: ATerm Sp* >< Lower\nB: ATerm >< Sp\nC: ATerm Sp+ >< Sp\nD: ATerm Sp* <>\nelse ><", "[root]\n+ Mr.\n+ A. b.\n"},
		{"A: ATerm <>\nelse ><", "[root]\n+ Mr.\n"},
		{"suppress\nelse <>", "[root]\n+ aa\n[en]\n+ é.\n"},
		{"else <>", ""},
		{"else ><", ""},
		{"A: ^ [^] <> [^]\nB: [^] <> [^] $\nelse ><", ""},
	}
}

// splitters are those of all budgets, built and loaded (W2, W5).
func splitters(t *testing.T, file [2]string) []*breaker.Splitter {
	t.Helper()
	var all []*breaker.Splitter
	for _, budget := range list(0, 1<<20) {
		s := built(t, classes, file[0], file[1], budget)
		again, err := breaker.Load(s.Save())
		if err != nil {
			t.Fatal(err)
		}
		all = append(all, s, again)
	}
	return all
}

// row draws a row of calls; numbers lie about the text, now and then at the ends of an int.
func row(d *rand.Rand, length int) []call {
	var all []call
	for range 1 + d.Intn(40) {
		n := d.Intn(2*length+9) - length - 4
		if d.Intn(2) == 0 {
			n = d.Intn(7) - 3
		}
		if d.Intn(20) == 0 {
			n = list(math.MinInt, math.MaxInt, math.MinInt+1, math.MaxInt-1)[d.Intn(4)]
		}
		all = append(all, call{names[d.Intn(len(names))], n})
	}
	return all
}

// short keeps the second version from going one by one through an int's numbers.
func short(c call, length int) call {
	if c.name == "Move" {
		c.n = max(-length-2, min(c.n, length+2))
	}
	return c
}

// W5: every row of calls answers what a place in the list would.
func TestW5_Rows(t *testing.T) {
	d := rand.New(rand.NewSource(205))
	for _, file := range files() {
		all := splitters(t, file)
		for range 300 {
			var b strings.Builder
			for range d.Intn(14) {
				b.WriteString([]string{"a", "b", "A", ".", ". ", " ", "é", "€", "Mr.", "A. b.", "aa", "\n", "\xff", "\xe2\x82", "\xc3"}[d.Intn(15)])
			}
			text := b.String()
			want := boundaries(t, all[0].Kinds(text), file[0], file[1], text)
			calls := row(d, len(text))
			for _, s := range all {
				x, y := cursor.New(s, text), &second{text: text, list: want}
				for i, c := range calls {
					if got, want := asked(x, c), y.ask(short(c, len(text))); got != want {
						t.Fatalf("W5: %q, %q: %v: the last answers %s, want %s", file, text, calls[:i+1], got, want)
					}
				}
			}
		}
	}
}

// Each call from each place of each small text, to which one came by several ways: the answer, and where it stands then.
func TestW5_EachCall(t *testing.T) {
	texts := []string{""}
	for i := 0; i < len(texts) && len(texts) < 1+4+16+64; i++ {
		for _, unit := range []string{"a", ".", "é", "\xff"} {
			texts = append(texts, texts[i]+unit)
		}
	}
	for _, file := range files()[:4] {
		s := splitters(t, file)[0]
		for _, text := range texts {
			want := boundaries(t, s.Kinds(text), file[0], file[1], text)
			for place := range max(1, len(want)) {
				for i, c := range calls(len(text)) {
					x, y := cursor.New(s, text), &second{text: text, list: want, place: place}
					come(x, y, i)
					got, wanted := asked(x, c), y.ask(short(c, len(text)))
					if got != wanted || x.Current() != y.current() || fmt.Sprintf("%q", x.Part()) != y.ask(call{"Part", 0}) {
						t.Fatalf("W5: %q, %q, at place %d: %v = %s, then it stands at %d; want %s, %d", file, text, place, c, got, x.Current(), wanted, y.current())
					}
				}
			}
		}
	}
}

// come brings a cursor to the second version's place, by one of several ways.
func come(x *cursor.Cursor, y *second, way int) {
	switch way % 4 {
	case 0:
		x.Move(y.place)
	case 1:
		x.Following(y.current() - 1)
	case 2:
		x.Preceding(y.current() + 1)
	case 3:
		x.Last()
		for x.Current() > y.current() {
			x.Previous()
		}
	}
}

// P0.2 and P20.9: many cursors asked in turn answer as each alone would; the splitter's tables stay as they were.
func TestP20_9_Many(t *testing.T) {
	d := rand.New(rand.NewSource(209))
	for _, file := range files() {
		for _, s := range splitters(t, file) {
			before := s.Save()
			var xs []*cursor.Cursor
			var ys []*second
			for i := range 8 {
				text := strings.Repeat("Hi. Mr. Fox. \xffé. aa", i%4)
				xs, ys = append(xs, cursor.New(s, text)), append(ys, &second{text: text, list: s.Split(text)})
			}
			for range 600 {
				i := d.Intn(len(xs))
				c := row(d, len(ys[i].text))[0]
				if got, want := asked(xs[i], c), ys[i].ask(short(c, len(ys[i].text))); got != want {
					t.Fatalf("P20.9: %q, cursor %d, %v: %s, want %s", file, i, c, got, want)
				}
				if d.Intn(4) == 0 {
					clear(s.Split(ys[i].text))
				}
			}
			if !bytes.Equal(s.Save(), before) {
				t.Error("P20.9: a cursor changes its splitter")
			}
		}
	}
}

// A text has no limit: a long one's boundaries are found by each kind of search.
func TestP20_4_Long(t *testing.T) {
	const count = 200000
	c := cursor.New(behindPoints(t), strings.Repeat("ab.", count))
	is(t, "P20.3: Last()", c.Last(), 3*count)
	for i := 0; i < count; i += 37 {
		is(t, "P20.4: Following", c.Following(3*i), 3*i+3)
		is(t, "P20.4: Preceding", c.Preceding(3*i+1), 3*i)
		if !c.IsBoundary(3*i) || c.IsBoundary(3*i+1) || c.IsBoundary(3*i+2) || c.Part() != "ab." {
			t.Fatalf("P20.5: about %d", 3*i)
		}
		is(t, "P20.6: Move", c.Move(count-i), 3*count)
		is(t, "P20.6: Move back", c.Move(i-count), 3*i)
	}
}
