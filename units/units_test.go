package units_test

import (
	"math"
	"math/rand"
	"slices"
	"strings"
	"testing"

	"caesura/api"
	"caesura/units"
)

// wellFormed is the table of the chapter, written out: each sequence with its point; beginnings are all that a longer sequence begins with.
func wellFormed() (points map[string]int, beginnings map[string]bool) {
	points, beginnings = map[string]int{}, map[string]bool{}
	for point := range 0x110000 {
		if point >= 0xD800 && point <= 0xDFFF {
			continue
		}
		text := sequence(point)
		points[text] = point
		for n := 1; n < len(text); n++ {
			beginnings[text[:n]] = true
		}
	}
	return points, beginnings
}

func sequence(point int) string {
	more := func(shift int) byte { return byte(0x80 + point>>shift%64) }
	switch {
	case point < 0x80:
		return string([]byte{byte(point)})
	case point < 0x800:
		return string([]byte{byte(0xC0 + point>>6), more(0)})
	case point < 0x10000:
		return string([]byte{byte(0xE0 + point>>12), more(6), more(0)})
	}
	return string([]byte{byte(0xF0 + point>>18), more(12), more(6), more(0)})
}

// reader reads a text as the page of DOC.md says, by looking each sequence up.
type reader struct {
	points     map[string]int
	beginnings map[string]bool
}

func newReader() reader {
	points, beginnings := wellFormed()
	return reader{points, beginnings}
}

func (r reader) size(text string, at int) int {
	for n := 1; n <= 4 && at+n <= len(text); n++ {
		if _, ok := r.points[text[at:at+n]]; ok {
			return n
		}
	}
	return 0
}

func (r reader) units(text string) []api.Unit {
	var list []api.Unit
	for at := 0; at < len(text); at = list[len(list)-1].End {
		if n := r.size(text, at); n > 0 {
			list = append(list, unit(r.points[text[at:at+n]], at, at+n))
		} else {
			list = append(list, unit(api.Bad, at, at+1))
		}
	}
	return list
}

func (r reader) cut(text string) int {
	for n := min(3, len(text)); n > 0; n-- {
		if r.beginnings[text[len(text)-n:]] {
			return n
		}
	}
	return 0
}

func unit(point, start, end int) api.Unit {
	return api.Unit{Point: point, Start: start, End: end}
}

// bounds are the bytes at which a row of the chapter's table begins or ends, and their neighbours.
const bounds = "\x00a\x7f\x80\x8f\x90\x9f\xa0\xbf\xc0\xc1\xc2\xdf\xe0\xe1\xec\xed\xee\xef\xf0\xf1\xf3\xf4\xf5\xff"

// words calls do with every text of up to most bytes, all of them bytes of letters.
func words(letters string, most int, do func(string)) {
	var grow func(text string)
	grow = func(text string) {
		do(text)
		if len(text) == most {
			return
		}
		for i := range len(letters) {
			grow(text + letters[i:i+1])
		}
	}
	grow("")
}

// samples are longer texts, with whole sequences, torn ones and single bytes among one another; the seed is fixed.
func samples() []string {
	chance := rand.New(rand.NewSource(2))
	edges := []int{0, 0x7F, 0x80, 0x7FF, 0x800, 0xFFF, 0x1000, 0xCFFF, 0xD000, 0xD7FF, 0xE000, 0xFFFD, 0xFFFF, 0x10000, 0x3FFFF, 0x40000, 0xFFFFF, 0x100000, 0x10FFFF}
	var all []string
	for range 2000 {
		var text strings.Builder
		for range chance.Intn(12) {
			s := sequence(edges[chance.Intn(len(edges))])
			switch chance.Intn(4) {
			case 0:
				s = s[:chance.Intn(len(s))]
			case 1:
				s = string([]byte{byte(chance.Intn(256))})
			}
			text.WriteString(s)
		}
		all = append(all, text.String())
	}
	return all
}

func TestP2_1_Split(t *testing.T) {
	bad := func(at int) api.Unit { return unit(api.Bad, at, at+1) }
	for _, c := range []struct {
		text string
		want []api.Unit
	}{
		{"", nil},
		{"a\xc3\xa9", []api.Unit{unit(0x61, 0, 1), unit(0xE9, 1, 3)}},
		{"\xc3a", []api.Unit{bad(0), unit(0x61, 1, 2)}},
		{"\xe2\x82\xac\xe2\x82", []api.Unit{unit(0x20AC, 0, 3), bad(3), bad(4)}},
		{"\xed\xa0\x80", []api.Unit{bad(0), bad(1), bad(2)}},
		{"\xc0\x80", []api.Unit{bad(0), bad(1)}},
		{"\xf4\x90\x80\x80", []api.Unit{bad(0), bad(1), bad(2), bad(3)}},
		{"\xef\xbf\xbd\xff", []api.Unit{unit(0xFFFD, 0, 3), bad(3)}},
		{"\xef\xbb\xbf\x00", []api.Unit{unit(0xFEFF, 0, 3), unit(0, 3, 4)}},
	} {
		if got := units.Split(c.text); !slices.Equal(got, c.want) {
			t.Errorf("Split(%q) = %v, want %v", c.text, got, c.want)
		}
	}
	r := newReader()
	check := func(text string) {
		if got, want := units.Split(text), r.units(text); !slices.Equal(got, want) {
			t.Fatalf("Split(%q) = %v, want %v", text, got, want)
		}
	}
	words(bounds, 4, check)
	for _, text := range samples() {
		check(text)
	}
	for a := range 256 {
		for b := range 256 {
			check(string([]byte{byte(a), byte(b), 0x80, 0xbf}))
		}
	}
}

func TestP2_2_NextPrev(t *testing.T) {
	r := newReader()
	check := func(text string) {
		next, prev := map[int]api.Unit{}, map[int]api.Unit{}
		for _, u := range r.units(text) {
			next[u.Start], prev[u.End] = u, u
		}
		for at := -2; at <= len(text)+2; at++ {
			want, in := next[at]
			if got, ok := units.Next(text, at); got != want || ok != in {
				t.Fatalf("Next(%q, %d) = %v, %v, want %v, %v", text, at, got, ok, want, in)
			}
			want, in = prev[at]
			if got, ok := units.Prev(text, at); got != want || ok != in {
				t.Fatalf("Prev(%q, %d) = %v, %v, want %v, %v", text, at, got, ok, want, in)
			}
		}
	}
	words(bounds, 3, check)
	words("a\x80\xbf\xc2\xe0\xed\xf0\xf4", 5, check)
	for _, text := range samples() {
		check(text)
	}
	for _, at := range []int{math.MinInt, math.MinInt + 1, math.MinInt + 3, -1, 5, math.MaxInt - 3, math.MaxInt - 1, math.MaxInt} {
		for _, text := range []string{"", "a", "\xff", "\xf0\x9f\x98\x80"} {
			if got, ok := units.Next(text, at); ok || got != (api.Unit{}) {
				t.Errorf("Next(%q, %d) = %v, %v", text, at, got, ok)
			}
			if got, ok := units.Prev(text, at); ok || got != (api.Unit{}) {
				t.Errorf("Prev(%q, %d) = %v, %v", text, at, got, ok)
			}
		}
	}
}

func TestP2_3_Encode(t *testing.T) {
	for _, points := range [][]int{nil, {}} {
		if got, err := units.Encode(points); got != "" || err != nil {
			t.Errorf("Encode(%v) = %q, %v", points, got, err)
		}
	}
	if got, err := units.Encode([]int{0x41, 0x20AC, 0x1F600}); got != "A\xe2\x82\xac\xf0\x9f\x98\x80" || err != nil {
		t.Errorf("Encode(41, 20AC, 1F600) = %q, %v", got, err)
	}
	for point := range 0x110000 {
		got, err := units.Encode([]int{point})
		if point >= 0xD800 && point <= 0xDFFF {
			if got != "" || err != api.ErrArg {
				t.Fatalf("Encode(%X) = %q, %v", point, got, err)
			}
		} else if got != sequence(point) || err != nil {
			t.Fatalf("Encode(%X) = %q, %v", point, got, err)
		}
	}
	for _, point := range []int{-1, api.Bad, 0xD800, 0xDFFF, 0x110000, math.MinInt, math.MaxInt, 1 << 32, 1<<32 + 0x41, -1<<32 + 0x41} {
		for _, points := range [][]int{{point}, {point, 0x41}, {0x41, point}, {0x41, point, 0x20AC}} {
			if got, err := units.Encode(points); got != "" || err != api.ErrArg {
				t.Errorf("Encode(%v) = %q, %v", points, got, err)
			}
		}
	}
}

func TestP2_4_Cut(t *testing.T) {
	for text, want := range map[string]int{"": 0, "a": 0, "a\xc3": 1, "\xe2\x82": 2, "\xf0\x9f\x98": 3, "\xf0\x9f\x98\x80": 0, "\xe0\x80": 0, "\xf4\x90": 0, "\xed\xa0": 0, "\xc2\xc2": 1, "\x80": 0, "\xc1": 0, "\xf5": 0, "\xf0\x8f\x80": 0, "a\xf4\x8f\xbf": 3} {
		if got := units.Cut(text); got != want {
			t.Errorf("Cut(%q) = %d, want %d", text, got, want)
		}
	}
	r := newReader()
	check := func(text string) {
		if got, want := units.Cut(text), r.cut(text); got != want {
			t.Fatalf("Cut(%q) = %d, want %d", text, got, want)
		}
	}
	words(bounds, 4, check)
	for _, text := range samples() {
		for n := range len(text) + 1 {
			check(text[:n])
		}
	}
}

func TestP2_5_Cover(t *testing.T) {
	for _, text := range samples() {
		at := 0
		for _, u := range units.Split(text) {
			if u.Start != at {
				t.Fatalf("%q: %v begins not at %d", text, u, at)
			}
			at = u.End
			piece := text[u.Start:u.End]
			if u.Point == api.Bad {
				if len(piece) != 1 {
					t.Fatalf("%q: %v is bad and not one byte", text, u)
				}
			} else if piece != sequence(u.Point) {
				t.Fatalf("%q: %v is not the sequence of its point", text, u)
			}
		}
		if at != len(text) {
			t.Fatalf("%q: covered to %d", text, at)
		}
	}
}

func TestP2_6_Near(t *testing.T) {
	r := newReader()
	moved := func(u api.Unit, by int) api.Unit { return unit(u.Point, u.Start+by, u.End+by) }
	for _, text := range samples() {
		for at := range len(text) + 1 {
			edge := true
			for start := max(0, at-3); start < at; start++ {
				edge = edge && start+r.size(text, start) <= at
			}
			_, begins := units.Next(text, at)
			_, ends := units.Prev(text, at)
			if (begins || at == len(text)) != edge || (ends || at == 0) != edge {
				t.Fatalf("%q, %d: edge %v, begins %v, ends %v", text, at, edge, begins, ends)
			}
			low, high := max(0, at-4), min(len(text), at+4)
			if got, ok := units.Next(text[max(0, at-3):high], min(at, 3)); ok {
				if want, _ := units.Next(text, at); moved(got, max(0, at-3)) != want {
					t.Fatalf("%q, %d: %v of the bytes around, %v of all", text, at, got, want)
				}
			} else if begins {
				t.Fatalf("%q, %d: nothing of the bytes around", text, at)
			}
			if got, ok := units.Prev(text[low:min(len(text), at+3)], at-low); ok {
				if want, _ := units.Prev(text, at); moved(got, low) != want {
					t.Fatalf("%q, %d: %v of the bytes around, %v of all", text, at, got, want)
				}
			} else if ends {
				t.Fatalf("%q, %d: nothing of the bytes around", text, at)
			}
		}
	}
}

func TestP2_7_ThereAndBack(t *testing.T) {
	chance := rand.New(rand.NewSource(7))
	for range 2000 {
		var points []int
		for range chance.Intn(9) {
			p := chance.Intn(0x110000 >> (4 * chance.Intn(4)))
			if p < 0xD800 || p > 0xDFFF {
				points = append(points, p)
			}
		}
		text, err := units.Encode(points)
		if err != nil {
			t.Fatalf("Encode(%X): %v", points, err)
		}
		if got := pointsOf(units.Split(text)); !slices.Equal(got, points) {
			t.Fatalf("Split(Encode(%X)) has the points %X", points, got)
		}
	}
	for _, text := range samples() {
		points := pointsOf(units.Split(text))
		if slices.Contains(points, api.Bad) {
			continue
		}
		if got, err := units.Encode(points); got != text || err != nil {
			t.Fatalf("Encode of the points of %q = %q, %v", text, got, err)
		}
	}
}

func pointsOf(list []api.Unit) []int {
	var points []int
	for _, u := range list {
		points = append(points, u.Point)
	}
	return points
}

func TestP2_8_Pieces(t *testing.T) {
	behind := []string{"", "a", "\xc3", "\x80", "\xbf", "\x80\x80", "\xbf\xbf", "\x80\x80\x80", "\xbf\xbf\xbf", "\x8f\x80", "\x90\x80\x80", "\x9f\x80", "\xa0\x80", "\xe2\x82\xac"}
	check := func(a string) {
		c := units.Cut(a)
		sure := len(a) - c
		settled := units.Split(a[:sure])
		longer, torn := c == 0, c == 0
		for _, b := range behind {
			whole := units.Split(a + b)
			if len(whole) < len(settled) || !slices.Equal(whole[:len(settled)], settled) {
				t.Fatalf("Split(%q) = %v does not begin with %v", a+b, whole, settled)
			}
			next := whole[len(settled):]
			if c > 0 && next[0].Start == sure && next[0].End > len(a) {
				longer = true
			}
			if c > 0 && len(next) >= c && next[c-1] == unit(api.Bad, len(a)-1, len(a)) {
				torn = true
			}
		}
		if own := units.Split(a); !slices.Equal(own[:len(settled)], settled) {
			t.Fatalf("Split(%q) = %v does not begin with %v", a, own, settled)
		}
		if !longer || !torn {
			t.Fatalf("Cut(%q) = %d: a longer unit %v, bad units %v", a, c, longer, torn)
		}
	}
	words(bounds, 3, check)
	for _, a := range samples() {
		check(a)
	}
}

func TestP2_9_Memory(t *testing.T) {
	text := "a\xc3\xa9\xff"
	first, second := units.Split(text), units.Split(text)
	want := slices.Clone(first)
	for i := range first {
		first[i] = unit(9, 9, 9)
	}
	_ = append(first, unit(8, 8, 8))
	if !slices.Equal(second, want) || !slices.Equal(units.Split(text), want) {
		t.Errorf("what was written into one answer is seen in another")
	}
	room := []int{0x41, 0xE9, 0x20AC, 0x1F600}
	points := room[:2]
	got, err := units.Encode(points)
	if got != "A\xc3\xa9" || err != nil || !slices.Equal(room, []int{0x41, 0xE9, 0x20AC, 0x1F600}) {
		t.Errorf("Encode = %q, %v, and leaves %X", got, err, room)
	}
	room[0] = 0x42
	if got != "A\xc3\xa9" {
		t.Errorf("the answer changed to %q", got)
	}
	for range 2 {
		if n := len(units.Split(strings.Repeat("\xf0\x9f\x98", 100000))); n != 300000 {
			t.Errorf("%d units", n)
		}
	}
}
