package props_test

import (
	"fmt"
	"math"
	"math/rand"
	"regexp"
	"slices"
	"strings"
	"testing"
	"unsafe"

	"caesura/api"
	"caesura/props"
)

const blocks = 8704

// property makes one of names with blanks between them, and of spans, three numbers each.
func property(names string, n ...int) api.Property {
	p := api.Property{Names: strings.Fields(names)}
	for i := 0; i+2 < len(n); i += 3 {
		p.Spans = append(p.Spans, api.Span{Low: n[i], High: n[i+1], Name: n[i+2]})
	}
	return p
}

func table(t *testing.T, p api.Property) *props.Table {
	t.Helper()
	x, err := props.New(p)
	if x == nil || err != nil {
		t.Fatalf("P5.1: New(%.200v) = %v, %v, want a table", p, x, err)
	}
	return x
}

func expectFault(t *testing.T, p api.Property, want error) {
	t.Helper()
	if x, err := props.New(p); x != nil || err != want {
		t.Errorf("P5.1: New(%.200v) = %v, %v, want nil, %v", p, x != nil, err, want)
	}
}

// manyNames makes as many names as are asked for, none twice.
func manyNames(n int) []string {
	var l []string
	for i := range n {
		l = append(l, fmt.Sprintf("n%d", i))
	}
	return l
}

// manySpans makes as many spans as are asked for, of one point each, none touching.
func manySpans(n int) []api.Span {
	var l []api.Span
	for i := range n {
		l = append(l, api.Span{Low: 2 * i, High: 2 * i})
	}
	return l
}

var nameForm = regexp.MustCompile(`\A[A-Za-z][A-Za-z0-9_]{0,31}\z`)

// refusal is what the chapter asks of New, word by word.
func refusal(p api.Property) error {
	if len(p.Names) > 62 {
		return api.ErrMany
	}
	ahead := map[string]bool{}
	for _, n := range p.Names {
		if !nameForm.MatchString(n) {
			return api.ErrText
		}
		if n == "Other" {
			return api.ErrArg
		}
		if ahead[n] {
			return api.ErrTwice
		}
		ahead[n] = true
	}
	if len(p.Spans) > 65536 {
		return api.ErrMany
	}
	high := -1
	for _, s := range p.Spans {
		if s.Low < 0 || s.High > 0x10ffff || s.Low > s.High || s.Name < 0 || s.Name >= len(p.Names) {
			return api.ErrArg
		}
		if s.Low <= high {
			return api.ErrOrder
		}
		high = s.High
	}
	return nil
}

// classes are those of all points, as the spans say them.
func classes(p api.Property) []byte {
	l := make([]byte, 0x110000)
	for _, s := range p.Spans {
		for point := s.Low; point <= s.High; point++ {
			l[point] = byte(1 + s.Name)
		}
	}
	return l
}

// size counts the blocks that have no equal one ahead of them.
func size(l []byte) int {
	seen := map[string]bool{}
	for i := range blocks {
		seen[string(l[128*i:128*i+128])] = true
	}
	return len(seen)
}

// against holds all that a table answers against what its property says.
func against(t *testing.T, p api.Property) {
	t.Helper()
	want := refusal(p)
	if want != nil {
		expectFault(t, p, want)
		return
	}
	x := table(t, p)
	l := classes(p)
	for point, class := range l {
		if got := x.Class(point); got != int(class) {
			t.Fatalf("P5.3: %.200v: Class(%X) = %d, want %d", p, point, got, class)
		}
	}
	if got, want := x.Size(), size(l); got != want {
		t.Fatalf("P5.4: %.200v: Size() = %d, want %d", p, got, want)
	}
	if got := x.Size(); got > 3*len(p.Spans)+1 {
		t.Fatalf("P5.5: %.200v: Size() = %d of %d spans", p, got, len(p.Spans))
	}
	names := append([]string{"Other"}, p.Names...)
	if got := x.Names(); !slices.Equal(got, names) {
		t.Fatalf("P5.2: Names() = %q, want %q", got, names)
	}
	for i, name := range names {
		if got := x.Number(name); got != i {
			t.Fatalf("P5.2: Number(%q) = %d, want %d", name, got, i)
		}
	}
}

func TestP5_1_Names(t *testing.T) {
	for names, want := range map[string]error{
		"A A": api.ErrTwice, "A B A": api.ErrTwice, "A B B": api.ErrTwice, "Other": api.ErrArg, "A Other": api.ErrArg, "Other Other": api.ErrArg,
		"9a": api.ErrText, "_a": api.ErrText, "a-b": api.ErrText, "a.": api.ErrText, "\xc3\xa9": api.ErrText, "a\xc3\xa9": api.ErrText, "a\x00": api.ErrText,
		"A 9": api.ErrText, strings.Repeat("n", 33): api.ErrText, "A " + strings.Repeat("n", 33): api.ErrText,
		// The first name that has a fault tells.
		"A A 9": api.ErrTwice, "9 A A": api.ErrText, "A A Other": api.ErrTwice, "Other A A": api.ErrArg, "Other 9": api.ErrArg, "9 Other": api.ErrText,
	} {
		expectFault(t, property(names), want)
		expectFault(t, property(names, 5, 4, 0), want)
	}
	for _, name := range []string{"", " ", " A", "A ", "A B", "\t", "A\n", "\nA", "A\r"} {
		expectFault(t, api.Property{Names: []string{name}}, api.ErrText)
		expectFault(t, api.Property{Names: []string{"A", name, "A"}}, api.ErrText)
	}
	for _, names := range []string{"", "A", "a", "Z", "z", "A a", "other", "OTHER", "Others", "Othe", "a_9", "A_", "a0123456789", strings.Repeat("n", 32), "A B C"} {
		against(t, property(names))
	}
}

func TestP5_1_EveryByteOfAName(t *testing.T) {
	for b := range 256 {
		for _, form := range []string{"%s", "%sb", "a%s", "a%sb"} {
			p := api.Property{Names: []string{fmt.Sprintf(form, string([]byte{byte(b)}))}}
			if want := refusal(p); want != nil {
				expectFault(t, p, want)
			} else {
				table(t, p)
			}
		}
	}
}

func TestP5_1_Limits(t *testing.T) {
	against(t, api.Property{Names: manyNames(62)})
	expectFault(t, api.Property{Names: manyNames(63)}, api.ErrMany)
	expectFault(t, api.Property{Names: manyNames(1000)}, api.ErrMany)
	expectFault(t, api.Property{Names: append([]string{"9", "Other"}, manyNames(61)...)}, api.ErrMany)
	expectFault(t, api.Property{Names: append(manyNames(61), "9")}, api.ErrText)

	one := []string{"A"}
	against(t, api.Property{Names: one, Spans: manySpans(65536)})
	expectFault(t, api.Property{Names: one, Spans: manySpans(65537)}, api.ErrMany)
	expectFault(t, api.Property{Names: one, Spans: make([]api.Span, 65537)}, api.ErrMany)
	expectFault(t, api.Property{Names: one, Spans: make([]api.Span, 65536)}, api.ErrOrder)
	expectFault(t, api.Property{Spans: make([]api.Span, 65537)}, api.ErrMany)
	expectFault(t, api.Property{Names: []string{"9"}, Spans: make([]api.Span, 65537)}, api.ErrText)
	expectFault(t, api.Property{Names: []string{"A", "A"}, Spans: make([]api.Span, 65537)}, api.ErrTwice)
}

func TestP5_1_Spans(t *testing.T) {
	const low, high = math.MinInt, math.MaxInt
	for _, n := range [][]int{
		{5, 4, 0}, {0, 0x110000, 0}, {1, 2, 1}, {-1, 2, 0}, {1, 2, -1}, {0x110000, 0x110000, 0}, {-1, -1, 0}, {low, high, 0}, {0, high, 0}, {low, 0, 0}, {high, low, 0}, {high, high, 0}, {1, 2, high}, {1, 2, low}, {1, 2, 256}, {0x10ffff, 0, 0},
		{1, 2, 0, 3, 2, 0}, {1, 2, 0, 4, 5, 1}, {1, 2, 0, 4, 0x110000, 0}, {1, 2, 0, -4, 5, 0},
		// Of one span ErrArg comes ahead of ErrOrder; of two spans the first tells.
		{4, 5, 0, 1, 0, 0}, {4, 5, 0, 1, 2, 7}, {4, 5, 0, -1, 2, 0}, {5, 4, 0, 1, 2, 0},
	} {
		expectFault(t, property("A", n...), api.ErrArg)
	}
	for _, n := range [][]int{
		{1, 5, 0, 5, 9, 0}, {4, 5, 0, 1, 2, 0}, {4, 5, 0, 4, 5, 0}, {1, 9, 0, 3, 4, 0}, {1, 2, 0, 4, 5, 0, 3, 3, 0}, {0, 0x10ffff, 0, 0x10ffff, 0x10ffff, 0}, {4, 5, 0, 1, 2, 0, 5, 4, 0}, {4, 5, 0, 1, 4, 0},
	} {
		expectFault(t, property("A", n...), api.ErrOrder)
	}
	expectFault(t, property("", 1, 2, 0), api.ErrArg)
	for _, n := range [][]int{{}, {0, 0, 0}, {0x10ffff, 0x10ffff, 1}, {0, 0x10ffff, 1}, {1, 5, 0, 6, 9, 0}, {1, 5, 0, 6, 9, 1}, {0, 0, 1, 1, 1, 0, 2, 2, 1}} {
		against(t, property("A B", n...))
	}
}

func TestP5_1_AllSmall(t *testing.T) {
	ends := []int{-1, 0, 1, 2, 0x10ffff, 0x110000}
	var all []api.Span
	for _, low := range ends {
		for _, high := range ends {
			for name := -1; name <= 2; name++ {
				all = append(all, api.Span{Low: low, High: high, Name: name})
			}
		}
	}
	for names := range 3 {
		for _, a := range all {
			for _, b := range all {
				p := api.Property{Names: manyNames(names), Spans: []api.Span{a, b}}
				if want := refusal(p); want != nil {
					expectFault(t, p, want)
				}
			}
		}
	}
}

func TestP5_2_NamesAndNumbers(t *testing.T) {
	x := table(t, property("Upper Lower Sp", 0x61, 0x7a, 1, 0x100, 0x101, 0))
	if l := x.Names(); !slices.Equal(l, []string{"Other", "Upper", "Lower", "Sp"}) {
		t.Errorf("P5.2: Names() = %q", l)
	}
	for name, want := range map[string]int{"Other": 0, "Upper": 1, "Lower": 2, "Sp": 3, "": -1, "other": -1, "upper": -1, "Uppe": -1, "Upper ": -1, " Upper": -1, "S": -1, "Spp": -1, "\xff": -1, strings.Repeat("n", 100): -1} {
		if got := x.Number(name); got != want {
			t.Errorf("P5.2: Number(%q) = %d, want %d", name, got, want)
		}
	}
	empty := table(t, api.Property{})
	if l := empty.Names(); !slices.Equal(l, []string{"Other"}) {
		t.Errorf("P5.2: Names() without names = %q", l)
	}
	if a, b := empty.Number("Other"), empty.Number("x"); a != 0 || b != -1 {
		t.Errorf("P5.2: Number without names = %d, %d", a, b)
	}
}

func TestP5_3_Examples(t *testing.T) {
	two := property("A B", 0x41, 0x5a, 0, 0x61, 0x7a, 1)
	for _, c := range []struct {
		p           api.Property
		point, want int
	}{
		{api.Property{}, 65, 0}, {api.Property{}, -1, 0}, {api.Property{}, 0x10ffff, 0},
		{two, 0x41, 1}, {two, 0x5a, 1}, {two, 0x40, 0}, {two, 0x5b, 0}, {two, 0x60, 0}, {two, 0x61, 2}, {two, 0x7a, 2}, {two, 0x7b, 0}, {two, 0x110000, 0}, {two, 0x110041, 0},
		{property("A", 0, 0x10ffff, 0), 0, 1}, {property("A", 0, 0x10ffff, 0), 0xd800, 1}, {property("A", 0, 0x10ffff, 0), 0x10ffff, 1},
		{property("A B", 127, 128, 1), 126, 0}, {property("A B", 127, 128, 1), 127, 2}, {property("A B", 127, 128, 1), 128, 2}, {property("A B", 127, 128, 1), 129, 0},
	} {
		if got := table(t, c.p).Class(c.point); got != c.want {
			t.Errorf("P5.3: %v: Class(%X) = %d, want %d", c.p, c.point, got, c.want)
		}
	}
	last := api.Property{Names: manyNames(62), Spans: []api.Span{{Low: 7, High: 7, Name: 61}}}
	if got := table(t, last).Class(7); got != 62 {
		t.Errorf("P5.3: Class of the last name = %d, want 62", got)
	}
}

func TestP5_3_NoPoint(t *testing.T) {
	x := table(t, property("A", 0, 0x10ffff, 0))
	numbers := []int{api.Bad, -2, -127, -128, -129, -0x110000, math.MinInt, math.MinInt + 1, 0x110000, 0x110001, 0x11007f, 0x110080, 1 << 31, 1 << 32, 1<<32 + 0x41, math.MaxInt - 1, math.MaxInt}
	for _, n := range numbers {
		if got := x.Class(n); got != 0 {
			t.Errorf("P5.3: Class(%d) = %d, want 0", n, got)
		}
		if got := x.Classes([]api.Unit{{Point: n}, {Point: 5}}); !slices.Equal(got, []int{0, 1}) {
			t.Errorf("P5.3: Classes of %d and 5 = %v, want 0 1", n, got)
		}
	}
}

func TestP5_3_Classes(t *testing.T) {
	x := table(t, property("A B", 0x41, 0x5a, 0, 0x61, 0x7a, 1))
	if got := x.Classes(nil); len(got) != 0 {
		t.Errorf("P5.3: Classes(nil) = %v", got)
	}
	if got := x.Classes([]api.Unit{}); len(got) != 0 {
		t.Errorf("P5.3: Classes of none = %v", got)
	}
	// Only Point says the class: what Start and End are does not matter.
	units := []api.Unit{{Point: 0x41, Start: 0x61, End: 0x61}, {Point: -1, Start: 0x41, End: 0x41}, {Point: 0x61, Start: -5, End: 3}, {Point: 0x20}, {Point: 0x42, Start: math.MaxInt, End: math.MinInt}}
	if got := x.Classes(units); !slices.Equal(got, []int{1, 0, 2, 0, 1}) {
		t.Errorf("P5.3: Classes = %v", got)
	}
	random := rand.New(rand.NewSource(53))
	for range 200 {
		list := make([]api.Unit, random.Intn(50))
		want := make([]int, len(list))
		for i := range list {
			list[i].Point = random.Intn(0x90) - 4
			want[i] = x.Class(list[i].Point)
		}
		if got := x.Classes(list); !slices.Equal(got, want) {
			t.Fatalf("P5.3: Classes(%v) = %v, want %v", list, got, want)
		}
	}
}

func TestP5_4_Sizes(t *testing.T) {
	for _, c := range []struct {
		p    api.Property
		want int
	}{
		{api.Property{}, 1}, {property("A"), 1},
		{property("A B", 0x41, 0x5a, 0, 0x61, 0x7a, 1), 2},
		{property("A", 0, 0x10ffff, 0), 1}, {property("A", 0, 0x10fffe, 0), 2}, {property("A", 1, 0x10ffff, 0), 2},
		{property("A", 0, 127, 0), 2}, {property("A", 0, 255, 0), 2}, {property("A", 0, 128, 0), 3}, {property("A", 127, 128, 0), 3}, {property("A", 64, 447, 0), 4},
		{property("A", 0x10ff80, 0x10ffff, 0), 2}, {property("A", 0x10ffff, 0x10ffff, 0), 2},
		// Equal blocks that stand far from one another are one.
		{property("A", 5, 5, 0, 133, 133, 0, 1029, 1029, 0), 2}, {property("A", 5, 5, 0, 0x10ff85, 0x10ff85, 0), 2},
		// The same points of another class, or the same class at another place, are another block.
		{property("A B", 5, 5, 0, 133, 133, 1), 3}, {property("A", 5, 5, 0, 134, 134, 0), 3}, {property("A B", 0, 127, 0, 128, 255, 1), 3},
		{property("A B", 0, 127, 0, 128, 255, 1, 256, 383, 0, 384, 511, 1), 3},
	} {
		if got := table(t, c.p).Size(); got != c.want {
			t.Errorf("P5.4: %v: Size() = %d, want %d", c.p, got, c.want)
		}
	}
}

// allDiffer is a property of which no two blocks are equal: the first three points of each spell its number.
func allDiffer() api.Property {
	p := api.Property{Names: manyNames(62)}
	for i := range blocks {
		for place, digit := range []int{i % 62, i / 62 % 62, i / 62 / 62} {
			p.Spans = append(p.Spans, api.Span{Low: 128*i + place, High: 128*i + place, Name: digit})
		}
	}
	return p
}

func TestP5_4_AllBlocksDiffer(t *testing.T) {
	p := allDiffer()
	against(t, p)
	if got := table(t, p).Size(); got != blocks {
		t.Errorf("P5.4: Size() = %d, want %d", got, blocks)
	}
}

// sample makes a property of names and spans by chance; step is how far apart spans are.
func sample(random *rand.Rand, names, spans, step int) api.Property {
	p := api.Property{Names: manyNames(names)}
	at := random.Intn(step)
	for range spans {
		high := at + random.Intn(step)
		if high > 0x10ffff {
			break
		}
		p.Spans = append(p.Spans, api.Span{Low: at, High: high, Name: random.Intn(names)})
		at = high + 1 + random.Intn(2)*random.Intn(step)
	}
	return p
}

func TestP5_3_P5_4_Samples(t *testing.T) {
	random := rand.New(rand.NewSource(5))
	for _, step := range []int{1, 2, 5, 64, 127, 128, 129, 300, 3000, 40000, 400000} {
		for range 6 {
			against(t, sample(random, 1+random.Intn(62), 1+random.Intn(200), step))
		}
	}
	against(t, sample(random, 62, 65536, 16))
	against(t, sample(random, 1, 65536, 4))
	against(t, sample(random, 2, 65536, 1))
}

func TestP5_3_P5_4_EdgesOfBlocks(t *testing.T) {
	for _, first := range []int{0, 128, 0xd780, 0xd800, 0xff80, 0x10ff00, 0x10ff80} {
		for _, low := range []int{first, first + 1, first + 127} {
			for _, high := range []int{first + 127, first + 128, first + 255, first + 256, 0x10ffff} {
				if low <= high && high <= 0x10ffff {
					against(t, property("A B", low, high, 1))
				}
			}
		}
	}
}

// joined is the property with spans that touch and have one name made into one.
func joined(p api.Property) api.Property {
	j := api.Property{Names: p.Names}
	for _, s := range p.Spans {
		if n := len(j.Spans); n > 0 && j.Spans[n-1].High+1 == s.Low && j.Spans[n-1].Name == s.Name {
			j.Spans[n-1].High = s.High
			continue
		}
		j.Spans = append(j.Spans, s)
	}
	return j
}

func TestP5_5_Joined(t *testing.T) {
	random := rand.New(rand.NewSource(55))
	cases := []api.Property{
		property("A", 1, 5, 0, 6, 9, 0),
		property("A B", 0, 1, 0, 2, 3, 0, 4, 4, 1, 5, 200, 1, 201, 0x10ffff, 1),
		{Names: []string{"A"}, Spans: nil},
	}
	for range 10 {
		cases = append(cases, sample(random, 2, 300, 100))
	}
	for _, p := range cases {
		j := joined(p)
		a, b := table(t, p), table(t, j)
		if a.Size() != b.Size() || !slices.Equal(a.Names(), b.Names()) {
			t.Fatalf("P5.5: %.200v: sizes %d and %d", p, a.Size(), b.Size())
		}
		for point := -1; point <= 0x110000; point++ {
			if a.Class(point) != b.Class(point) {
				t.Fatalf("P5.5: %.200v: Class(%X) = %d, joined %d", p, point, a.Class(point), b.Class(point))
			}
		}
	}
}

func TestP5_5_Bound(t *testing.T) {
	for spans := range 20 {
		// Each of these spans fills two blocks of its own in part, and, all of another class, one that is full.
		p := api.Property{Names: manyNames(62)}
		for i := range spans {
			p.Spans = append(p.Spans, api.Span{Low: 1280*i + 64, High: 1280*i + 320, Name: i})
		}
		x := table(t, p)
		if got := x.Size(); got != 3*spans+1 {
			t.Errorf("P5.5: Size() of %d spans = %d, want %d", spans, got, 3*spans+1)
		}
	}
}

func TestP5_6_AnswersAreNewMemory(t *testing.T) {
	x := table(t, property("A B", 0x41, 0x5a, 0, 0x61, 0x7a, 1))
	names := x.Names()
	other := x.Names()
	for i := range names {
		names[i] = "spoiled"
	}
	_ = append(names[:1], "spoiled", "spoiled")
	for i := range names[:cap(names)] {
		names[:cap(names)][i] = "spoiled"
	}
	want := []string{"Other", "A", "B"}
	if !slices.Equal(other, want) || !slices.Equal(x.Names(), want) {
		t.Errorf("P5.6: Names() = %q and %q behind a change of an answer", other, x.Names())
	}
	if x.Number("A") != 1 || x.Number("spoiled") != -1 {
		t.Errorf("P5.6: Number hangs on an answer of Names")
	}
	units := []api.Unit{{Point: 0x41}, {Point: 0x61}}
	first := x.Classes(units)
	second := x.Classes(units)
	first[0] = 7
	_ = append(first[:1], 9)
	if !slices.Equal(second, []int{1, 2}) || !slices.Equal(x.Classes(units), []int{1, 2}) {
		t.Errorf("P5.6: Classes = %v behind a change of an answer", second)
	}
}

func TestP5_6_NothingIsKept(t *testing.T) {
	names := []string{"A", "B", "beyond"}
	spans := []api.Span{{Low: 0x41, High: 0x5a}, {Low: 0x61, High: 0x7a, Name: 1}, {Low: 3, High: 2, Name: -1}}
	p := api.Property{Names: names[:2], Spans: spans[:2]}
	x := table(t, p)
	if !slices.Equal(names, []string{"A", "B", "beyond"}) || spans[0] != (api.Span{Low: 0x41, High: 0x5a}) || spans[1] != (api.Span{Low: 0x61, High: 0x7a, Name: 1}) || spans[2] != (api.Span{Low: 3, High: 2, Name: -1}) {
		t.Errorf("P5.6: New changed what it was handed: %v, %v", names, spans)
	}
	names[0], names[1] = "X", "Y"
	spans[0], spans[1] = api.Span{Low: 0, High: 9}, api.Span{Low: 0, High: 9}
	if l := x.Names(); !slices.Equal(l, []string{"Other", "A", "B"}) {
		t.Errorf("P5.6: Names() = %q behind a change of what was handed in", l)
	}
	if x.Class(0x41) != 1 || x.Class(0x61) != 2 || x.Class(0) != 0 || x.Number("A") != 1 || x.Number("X") != -1 {
		t.Errorf("P5.6: the table hangs on what was handed in")
	}
	units := []api.Unit{{Point: 0x41}, {Point: 0x61, Start: 1, End: 2}, {Point: 7, Start: 8, End: 9}}
	before := slices.Clone(units)
	list := x.Classes(units[:2])
	if !slices.Equal(units, before) {
		t.Errorf("P5.6: Classes changed what it was handed: %v", units)
	}
	units[0].Point = 0x61
	if !slices.Equal(list, []int{1, 2}) {
		t.Errorf("P5.6: an answer hangs on what was handed in: %v", list)
	}
}

func TestP5_6_NoNameHoldsAText(t *testing.T) {
	text := strings.Repeat("Upper ", 1000)
	name := text[6:11]
	x := table(t, api.Property{Names: []string{name}})
	if unsafe.StringData(x.Names()[1]) == unsafe.StringData(name) {
		t.Errorf("P5.6: a name that is answered is the memory that was handed in")
	}
}

func TestP5_6_TablesStandAlone(t *testing.T) {
	a := table(t, property("A", 0, 0x10ffff, 0))
	b := table(t, property("B C", 5, 5, 1))
	expectFault(t, property("A", 5, 4, 0), api.ErrArg)
	if a.Class(5) != 1 || b.Class(5) != 2 || b.Class(6) != 0 || a.Size() != 1 || b.Size() != 2 || a.Number("B") != -1 || b.Number("B") != 1 {
		t.Errorf("P5.6: a table hangs on another one")
	}
}

func TestP5_6_Determined(t *testing.T) {
	p := sample(rand.New(rand.NewSource(56)), 30, 3000, 200)
	a, b := table(t, p), table(t, p)
	for range 3 {
		if a.Size() != b.Size() || !slices.Equal(a.Names(), b.Names()) {
			t.Fatal("P5.6: the same property gave other answers")
		}
		for point := 0; point <= 0x10ffff; point += 7 {
			if a.Class(point) != b.Class(point) {
				t.Fatalf("P5.6: Class(%X) = %d and %d", point, a.Class(point), b.Class(point))
			}
		}
	}
}
