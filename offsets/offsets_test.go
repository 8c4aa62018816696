package offsets_test

import (
	"math"
	"strings"
	"testing"

	"caesura/api"
	"caesura/offsets"
)

// sample is the text of the chapter's examples: ten bytes, six units.
const sample = "a\xc3\xa9\r\n\xf0\x9d\x84\x9e\xff"

// counts is what Count must answer.
type counts struct{ bytes, units, wide, lines int }

func counted(t *testing.T, text string, want counts) {
	t.Helper()
	var got counts
	got.bytes, got.units, got.wide, got.lines = offsets.New(text).Count()
	if got != want {
		t.Errorf("P26.1: Count of %q = %v, want %v", text, got, want)
	}
}

// goes asks with each number in turn.
func goes(t *testing.T, what string, ask func(int) (int, error), pairs ...[2]int) {
	t.Helper()
	for _, p := range pairs {
		if got, err := ask(p[0]); got != p[1] || err != nil {
			t.Errorf("%s(%d) = %d, %v, want %d", what, p[0], got, err, p[1])
		}
	}
}

// refuses asks for what is not there.
func refuses(t *testing.T, what string, ask func(int) (int, error), numbers ...int) {
	t.Helper()
	for _, n := range append(numbers, math.MinInt, math.MinInt+1, math.MaxInt, math.MaxInt-1, 1<<32, -1<<32) {
		if got, err := ask(n); got != 0 || err != api.ErrArg {
			t.Errorf("%s(%d) = %d, %v, want 0, ErrArg", what, n, got, err)
		}
	}
}

// lies is at, the line and the column that are its.
type lies [3]int

// onLines asks both ways.
func onLines(t *testing.T, text string, rows ...lies) {
	t.Helper()
	m := offsets.New(text)
	for _, r := range rows {
		if line, column, err := m.Line(r[0]); line != r[1] || column != r[2] || err != nil {
			t.Errorf("P26.4: %q: Line(%d) = %d, %d, %v, want %d, %d", text, r[0], line, column, err, r[1], r[2])
		}
		if at, err := m.At(r[1], r[2]); at != r[0] || err != nil {
			t.Errorf("P26.4: %q: At(%d, %d) = %d, %v, want %d", text, r[1], r[2], at, err, r[0])
		}
	}
}

// onNone asks for lines and columns that are not there.
func onNone(t *testing.T, text string, rows ...[2]int) {
	t.Helper()
	m := offsets.New(text)
	far := [][2]int{{math.MinInt, 1}, {math.MaxInt, 1}, {1, math.MinInt}, {1, math.MaxInt}, {math.MinInt, math.MinInt}, {math.MaxInt, math.MaxInt}, {math.MaxInt, math.MinInt}, {1 << 32, 1}, {1<<32 + 1, 1}, {1, 1<<32 + 1}}
	for _, r := range append(rows, far...) {
		if at, err := m.At(r[0], r[1]); at != 0 || err != api.ErrArg {
			t.Errorf("P26.4: %q: At(%d, %d) = %d, %v, want 0, ErrArg", text, r[0], r[1], at, err)
		}
	}
}

func TestP26_1_Count(t *testing.T) {
	counted(t, sample, counts{10, 6, 7, 2})
	counted(t, "", counts{0, 0, 0, 1})
	counted(t, "abc", counts{3, 3, 3, 1})
	counted(t, "\n", counts{1, 1, 1, 2})
	counted(t, "a\n\n", counts{3, 3, 3, 3})
	counted(t, "\r\n\r\n", counts{4, 4, 4, 3})
	counted(t, "\r\r", counts{2, 2, 2, 1})
	counted(t, "\x00\x00", counts{2, 2, 2, 1})
	counted(t, strings.Repeat("\U0001D11E\n", 1000), counts{5000, 2000, 3000, 1001})
}

// The width of a unit hangs on its point alone: on the least and the greatest of each number of bytes, and on bytes that are part of none.
func TestP26_1_Widths(t *testing.T) {
	for _, text := range []string{"\x00", "\x7f", "\u0080", "\u07ff", "\u0800", "\ud7ff", "\ue000", "\ufffd", "\uffff", "\xff", "\x80"} {
		counted(t, text, counts{len(text), 1, 1, 1})
	}
	for _, text := range []string{"\U00010000", "\U00010001", "\U0001D11E", "\U000FFFFF", "\U00100000", "\U0010FFFF"} {
		counted(t, text, counts{4, 1, 2, 1})
	}
	for _, text := range []string{"\xed\xa0\x80", "\xed\xbf\xbf", "\xc0\x80", "\xf4\x90\x80\x80", "\xf0\x8f\xbf\xbf", "\xf0\x9d\x84", "\xe2\x82", "\xc3"} {
		counted(t, text, counts{len(text), len(text), len(text), 1})
	}
	counted(t, "\xf0\x9d\x84a\xf0\x9d\x84\x9e\x9e", counts{9, 6, 7, 1})
}

func TestP26_2_Units(t *testing.T) {
	m := offsets.New(sample)
	goes(t, "P26.2: Unit", m.Unit, [2]int{0, 0}, [2]int{1, 1}, [2]int{3, 2}, [2]int{4, 3}, [2]int{5, 4}, [2]int{9, 5}, [2]int{10, 6})
	refuses(t, "P26.2: Unit", m.Unit, 2, 6, 7, 8, -1, 11, 12)
	goes(t, "P26.2: Byte", m.Byte, [2]int{0, 0}, [2]int{1, 1}, [2]int{2, 3}, [2]int{3, 4}, [2]int{4, 5}, [2]int{5, 9}, [2]int{6, 10})
	refuses(t, "P26.2: Byte", m.Byte, -1, 7, 8, 10)
	bad := offsets.New("\xe2\x82\xac\xe2\x82")
	goes(t, "P26.2: Unit", bad.Unit, [2]int{0, 0}, [2]int{3, 1}, [2]int{4, 2}, [2]int{5, 3})
	refuses(t, "P26.2: Unit", bad.Unit, -1, 1, 2, 6)
}

func TestP26_3_Wide(t *testing.T) {
	m := offsets.New(sample)
	goes(t, "P26.3: Wide", m.Wide, [2]int{0, 0}, [2]int{1, 1}, [2]int{3, 2}, [2]int{4, 3}, [2]int{5, 4}, [2]int{9, 6}, [2]int{10, 7})
	refuses(t, "P26.3: Wide", m.Wide, 2, 6, 7, 8, -1, 11)
	goes(t, "P26.3: Narrow", m.Narrow, [2]int{0, 0}, [2]int{1, 1}, [2]int{2, 3}, [2]int{3, 4}, [2]int{4, 5}, [2]int{6, 9}, [2]int{7, 10})
	refuses(t, "P26.3: Narrow", m.Narrow, 5, 8, -1, 10)
	two := offsets.New("\U00010000\uffff\U0010FFFF")
	goes(t, "P26.3: Narrow", two.Narrow, [2]int{0, 0}, [2]int{2, 4}, [2]int{3, 7}, [2]int{5, 11})
	refuses(t, "P26.3: Narrow", two.Narrow, -1, 1, 4, 6)
}

func TestP26_4_Lines(t *testing.T) {
	onLines(t, sample, lies{0, 1, 1}, lies{1, 1, 2}, lies{3, 1, 3}, lies{4, 1, 4}, lies{5, 2, 1}, lies{9, 2, 2}, lies{10, 2, 3})
	onNone(t, sample, [2]int{1, 5}, [2]int{0, 1}, [2]int{2, 4}, [2]int{3, 1}, [2]int{1, 0}, [2]int{2, 0}, [2]int{-1, 1}, [2]int{1, -1}, [2]int{0, 0}, [2]int{0, 5}, [2]int{3, 0})
	m := offsets.New(sample)
	for _, at := range []int{2, 6, 7, 8, -1, 11, math.MinInt, math.MaxInt} {
		if line, column, err := m.Line(at); line != 0 || column != 0 || err != api.ErrArg {
			t.Errorf("P26.4: Line(%d) = %d, %d, %v, want 0, 0, ErrArg", at, line, column, err)
		}
	}
}

// A text that ends with 0A has a last line without units; so has one without anything.
func TestP26_4_LastLines(t *testing.T) {
	onLines(t, "a\n", lies{0, 1, 1}, lies{1, 1, 2}, lies{2, 2, 1})
	onNone(t, "a\n", [2]int{1, 3}, [2]int{2, 2}, [2]int{3, 1})
	onLines(t, "\n\n", lies{0, 1, 1}, lies{1, 2, 1}, lies{2, 3, 1})
	onNone(t, "\n\n", [2]int{1, 2}, [2]int{2, 2}, [2]int{3, 2}, [2]int{4, 1})
	onLines(t, "", lies{0, 1, 1})
	onNone(t, "", [2]int{1, 2}, [2]int{1, 0}, [2]int{0, 1}, [2]int{2, 1})
	none := offsets.New("")
	for what, ask := range map[string]func(int) (int, error){"Unit": none.Unit, "Byte": none.Byte, "Wide": none.Wide, "Narrow": none.Narrow} {
		goes(t, "the empty text: "+what, ask, [2]int{0, 0})
		refuses(t, "the empty text: "+what, ask, -1, 1)
	}
}

// Nothing but 0A ends a line: not 0D alone, nor what other ways of counting take for an end, nor a bad unit with that byte's look.
func TestP26_4_OtherEnds(t *testing.T) {
	for _, end := range []string{"\r", "\v", "\f", "\u0085", "\u2028", "\u2029", "\x1c", "\x8a", "\u010a", "\u0a0a", "\U0001000A"} {
		text := "a" + end + "b"
		onLines(t, text, lies{0, 1, 1}, lies{1, 1, 2}, lies{1 + len(end), 1, 3}, lies{len(text), 1, 4})
		onNone(t, text, [2]int{1, 5}, [2]int{2, 1}, [2]int{2, 2})
	}
	onLines(t, "a\r\nb\n\rc", lies{1, 1, 2}, lies{2, 1, 3}, lies{3, 2, 1}, lies{4, 2, 2}, lies{5, 3, 1}, lies{6, 3, 2}, lies{7, 3, 3})
	onLines(t, "\xc3\n\xe2\x82\n", lies{0, 1, 1}, lies{1, 1, 2}, lies{2, 2, 1}, lies{3, 2, 2}, lies{4, 2, 3}, lies{5, 3, 1})
}
