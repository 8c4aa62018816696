package offsets_test

import (
	"math"
	"math/rand"
	"strings"
	"sync"
	"testing"
	"unicode/utf16"
	"unicode/utf8"

	"caesura/api"
	"caesura/offsets"
)

// row is an edge of a text, in all ways.
type row struct{ at, unit, wide, line, column int }

// rowsOf counts each edge anew, after the chapter's words, from the text ahead of it.
func rowsOf(text string) []row {
	var all []row
	for at := 0; ; {
		ahead := text[:at]
		r := row{at: at, line: 1 + strings.Count(ahead, "\n")}
		for rest := ahead; rest != ""; {
			point, size := utf8.DecodeRuneInString(rest)
			r.unit++
			r.wide += len(utf16.Encode([]rune{point}))
			rest = rest[size:]
		}
		r.column = 1
		for rest := ahead[strings.LastIndex(ahead, "\n")+1:]; rest != ""; {
			_, size := utf8.DecodeRuneInString(rest)
			r.column++
			rest = rest[size:]
		}
		all = append(all, r)
		if at == len(text) {
			return all
		}
		_, size := utf8.DecodeRuneInString(text[at:])
		at += size
	}
}

// oneOf is the row of those that fit, by going through all.
func oneOf(rows []row, fits func(row) bool) (row, error) {
	for _, r := range rows {
		if fits(r) {
			return r, nil
		}
	}
	return row{}, api.ErrArg
}

// same holds all calls against the rows, for all numbers about those that are there.
func same(t *testing.T, text string, numbers []int) {
	t.Helper()
	m, rows := offsets.New(text), rowsOf(text)
	last := rows[len(rows)-1]
	counted(t, text, counts{last.at, last.unit, last.wide, last.line})
	for _, n := range numbers {
		want, fault := oneOf(rows, func(r row) bool { return r.at == n })
		if got, err := m.Unit(n); got != want.unit || err != fault {
			t.Fatalf("P26.2: %q: Unit(%d) = %d, %v, want %d, %v", text, n, got, err, want.unit, fault)
		}
		if got, err := m.Wide(n); got != want.wide || err != fault {
			t.Fatalf("P26.3: %q: Wide(%d) = %d, %v, want %d, %v", text, n, got, err, want.wide, fault)
		}
		if line, column, err := m.Line(n); line != want.line || column != want.column || err != fault {
			t.Fatalf("P26.4: %q: Line(%d) = %d, %d, %v, want %d, %d, %v", text, n, line, column, err, want.line, want.column, fault)
		}
		want, fault = oneOf(rows, func(r row) bool { return r.unit == n })
		if got, err := m.Byte(n); got != want.at || err != fault {
			t.Fatalf("P26.2: %q: Byte(%d) = %d, %v, want %d, %v", text, n, got, err, want.at, fault)
		}
		want, fault = oneOf(rows, func(r row) bool { return r.wide == n })
		if got, err := m.Narrow(n); got != want.at || err != fault {
			t.Fatalf("P26.3: %q: Narrow(%d) = %d, %v, want %d, %v", text, n, got, err, want.at, fault)
		}
	}
}

// sameLines holds At against the rows, for all lines and columns about those that are there.
func sameLines(t *testing.T, text string, numbers []int) {
	t.Helper()
	m, rows := offsets.New(text), rowsOf(text)
	for _, line := range numbers {
		for _, column := range numbers {
			want, fault := oneOf(rows, func(r row) bool { return r.line == line && r.column == column })
			if got, err := m.At(line, column); got != want.at || err != fault {
				t.Fatalf("P26.4: %q: At(%d, %d) = %d, %v, want %d, %v", text, line, column, got, err, want.at, fault)
			}
		}
	}
}

// between is all numbers from low to high, and the outermost ones.
func between(low, high int) []int {
	all := []int{math.MinInt, math.MaxInt}
	for n := low; n <= high; n++ {
		all = append(all, n)
	}
	return all
}

// words calls with each word of so many of the pieces, or fewer.
func words(pieces []string, size int, call func(string)) {
	var grow func(word string, left int)
	grow = func(word string, left int) {
		call(word)
		if left == 0 {
			return
		}
		for _, p := range pieces {
			grow(word+p, left-1)
		}
	}
	grow("", size)
}

func TestP26_5_AllSmallTexts(t *testing.T) {
	pieces := []string{"a", "\n", "\r", "\xc3\xa9", "\U0001D11E", "\xff"}
	words(pieces, 4, func(text string) {
		same(t, text, between(-2, len(text)+2))
		sameLines(t, text, between(-1, 7))
	})
}

// Bytes of longer sequences, in any order: what begins one and is not ended is as many units as it has bytes.
func TestP26_5_AllSmallBytes(t *testing.T) {
	words([]string{"\xf0", "\x9d", "\x84", "\x9e", "\n"}, 5, func(text string) {
		same(t, text, between(-1, len(text)+1))
	})
	words([]string{"\xe2", "\x82", "\xed", "\xa0", "\x0a"}, 4, func(text string) {
		same(t, text, between(-1, len(text)+1))
		sameLines(t, text, between(0, 6))
	})
}

// drawn is a text of so many pieces.
func drawn(r *rand.Rand, size int) string {
	pieces := []string{"a", "b", "\n", "\r\n", "\xc3\xa9", "\u20ac", "\uffff", "\U00010000", "\U0010FFFF", "\xff", "\xe2\x82", "\xf0\x9f\x98", "\x80"}
	var text strings.Builder
	for range size {
		text.WriteString(pieces[r.Intn(len(pieces))])
	}
	return text.String()
}

func TestP26_5_Drawn(t *testing.T) {
	r := rand.New(rand.NewSource(26))
	for range 300 {
		text := drawn(r, r.Intn(60))
		same(t, text, between(-3, 2*len(text)+3))
		sameLines(t, text, between(-1, 30))
	}
}

// back asks there and back again.
func back(t *testing.T, what string, n int, there, again func(int) (int, error)) {
	t.Helper()
	middle, err := there(n)
	if err != nil {
		return
	}
	if got, err := again(middle); got != n || err != nil {
		t.Fatalf("P26.5: %s of %d: by %d to %d, %v", what, n, middle, got, err)
	}
}

// In a long text: there and back, for all numbers that have no error, and all of them rise.
func TestP26_5_Long(t *testing.T) {
	text := drawn(rand.New(rand.NewSource(5)), 100000)
	m := offsets.New(text)
	size, _, _, _ := m.Count()
	if size != len(text) {
		t.Fatalf("P26.1: %d bytes of %d", size, len(text))
	}
	for n := -1; n <= size+1; n++ {
		back(t, "Byte(Unit)", n, m.Unit, m.Byte)
		back(t, "Unit(Byte)", n, m.Byte, m.Unit)
		back(t, "Narrow(Wide)", n, m.Wide, m.Narrow)
		back(t, "Wide(Narrow)", n, m.Narrow, m.Wide)
	}
	last := row{-1, -1, -1, 1, 0}
	for at := range size + 1 {
		unit, err := m.Unit(at)
		if err != nil {
			continue
		}
		here := row{at: at, unit: unit}
		here.wide, _ = m.Wide(at)
		here.line, here.column, _ = m.Line(at)
		if got, err := m.At(here.line, here.column); got != at || err != nil {
			t.Fatalf("P26.5: At(Line(%d)) = %d, %v", at, got, err)
		}
		sameLine := here.line == last.line && here.column == last.column+1
		nextLine := here.line == last.line+1 && here.column == 1
		if here.unit != last.unit+1 || here.wide <= last.wide || !sameLine && !nextLine {
			t.Fatalf("P26.5: %v and behind it %v", last, here)
		}
		last = here
	}
	if last.at != size {
		t.Fatalf("P26.5: the last edge is %v of %d bytes", last, size)
	}
}

// What a map was made of may be written into afterwards: a text is what it was when it was handed in. Maps know nothing of one another, and many may ask one at once.
func TestP26_6_Memory(t *testing.T) {
	bytes := []byte(sample)
	m, other := offsets.New(string(bytes)), offsets.New("x\ny")
	for i := range bytes {
		bytes[i] = '\n'
	}
	var asking sync.WaitGroup
	for range 8 {
		asking.Go(func() {
			for range 200 {
				goes(t, "P26.6: Unit", m.Unit, [2]int{9, 5}, [2]int{10, 6})
				goes(t, "P26.6: Narrow", m.Narrow, [2]int{6, 9})
				goes(t, "P26.6: Unit", other.Unit, [2]int{2, 2}, [2]int{3, 3})
				if at, err := m.At(2, 2); at != 9 || err != nil {
					t.Errorf("P26.6: At(2, 2) = %d, %v", at, err)
				}
			}
		})
	}
	asking.Wait()
	refuses(t, "P26.6: Unit", other.Unit, 4, 9)
	counted(t, sample, counts{10, 6, 7, 2})
}
