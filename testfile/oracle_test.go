package testfile_test

import (
	"fmt"
	"math/rand"
	"regexp"
	"slices"
	"strconv"
	"strings"
	"testing"
	"unicode/utf8"

	"caesura/api"
	"caesura/breaker"
	"caesura/testfile"
)

// The second version, by the chapter's words: a line's grammar is a regular expression.
var (
	emptyLine = regexp.MustCompile(`^[ \t]*$`)
	aLine     = regexp.MustCompile(`^[ \t]*(÷|×)([ \t]+[0-9A-Fa-f]{4,6}[ \t]+(÷|×))*[ \t]*$`)
	aWord     = regexp.MustCompile(`[^ \t]+`)
)

func scalar(point int) bool {
	return 0 <= point && point <= 0xd7ff || 0xe000 <= point && point <= 0x10ffff
}

func parseByWords(text string) ([]api.Case, int, error) {
	if len(text) > 1048576 {
		return nil, 0, api.ErrMany
	}
	lines := strings.Split(text, "\n")
	var l []api.Case
	for i, line := range lines {
		if i < len(lines)-1 {
			line = strings.TrimSuffix(line, "\r")
		}
		if at := strings.IndexByte(line, '#'); at >= 0 {
			line = line[:at]
		}
		if emptyLine.MatchString(line) {
			continue
		}
		if !aLine.MatchString(line) {
			return nil, i + 1, api.ErrText
		}
		var c api.Case
		for _, word := range aWord.FindAllString(line, -1) {
			switch word {
			case "\xc3\xb7":
				c.Breaks = append(c.Breaks, len(c.Points))
			case "\xc3\x97":
			default:
				point, _ := strconv.ParseInt(word, 16, 64)
				c.Points = append(c.Points, int(point))
			}
		}
		if slices.ContainsFunc(c.Points, func(point int) bool { return !scalar(point) }) {
			return nil, i + 1, api.ErrArg
		}
		if l = append(l, c); len(l) > 20000 {
			return nil, i + 1, api.ErrMany
		}
	}
	return l, 0, nil
}

func mayBe(c api.Case) bool {
	for _, point := range c.Points {
		if !scalar(point) {
			return false
		}
	}
	for i, place := range c.Breaks {
		if place < 0 || place > len(c.Points) || i > 0 && place <= c.Breaks[i-1] {
			return false
		}
	}
	return true
}

func printByWords(l []api.Case) (string, error) {
	if len(l) > 20000 {
		return "", api.ErrMany
	}
	var lines []string
	for _, c := range l {
		if !mayBe(c) {
			return "", api.ErrArg
		}
		var words []string
		for place := range len(c.Points) + 1 {
			if place > 0 {
				words = append(words, fmt.Sprintf("%04X", c.Points[place-1]))
			}
			words = append(words, map[bool]string{true: "\xc3\xb7", false: "\xc3\x97"}[slices.Contains(c.Breaks, place)])
		}
		lines = append(lines, strings.Join(words, " "))
	}
	text := strings.Join(lines, "\n")
	if len(text) > 1048576 {
		return "", api.ErrMany
	}
	return text, nil
}

// placesByWords holds the offset of each place against those of Split.
func placesByWords(s *breaker.Splitter, points []int) []int {
	var text []byte
	offsets := []int{0}
	for _, point := range points {
		text = utf8.AppendRune(text, rune(point))
		offsets = append(offsets, len(text))
	}
	split := s.Split(string(text))
	var places []int
	for place, offset := range offsets {
		if slices.Contains(split, offset) {
			places = append(places, place)
		}
	}
	return places
}

func runByWords(s *breaker.Splitter, l []api.Case) []api.Failure {
	var failures []api.Failure
	for i, c := range l {
		if !mayBe(c) {
			failures = append(failures, api.Failure{Case: i})
		} else if got := placesByWords(s, c.Points); !slices.Equal(got, c.Breaks) {
			failures = append(failures, api.Failure{Case: i, Got: got})
		}
	}
	return failures
}

// parsesLikewise holds Parse of a text, and what follows of it (P23.3), against the second version; it tells whether the text is read.
func parsesLikewise(t *testing.T, text string) bool {
	t.Helper()
	want, wantLine, wantErr := parseByWords(text)
	l, line, err := testfile.Parse(text)
	if !same(l, want) || line != wantLine || err != wantErr {
		t.Fatalf("P23.1: Parse(%q) = %v, %d, %v, want %v, %d, %v", text, l, line, err, want, wantLine, wantErr)
	}
	if err != nil {
		return false
	}
	short, err := testfile.Print(l)
	if err != nil || len(short) > len(text) {
		t.Fatalf("P23.3: Print of Parse(%q) = %q, %v", text, short, err)
	}
	reads(t, "P23.3", short, l...)
	return true
}

// All rows of up to six words with one blank between, and all of up to five pieces with none.
func TestP23_1_AllSmall(t *testing.T) {
	for _, kind := range []struct {
		pieces  []string
		between string
		most    int
	}{
		{[]string{"÷", "×", "0041", "d800", "110000", "#"}, " ", 6},
		{[]string{"÷", "0041", " ", "\n", "\r", "#", "\t", "D800"}, "", 5},
		{[]string{"÷ ", "× ", "10FFFF ", "\n"}, "", 7},
	} {
		read, refused := 0, 0
		var all func(text string, left int)
		all = func(text string, left int) {
			if parsesLikewise(t, text) {
				read++
			} else {
				refused++
			}
			if left == 0 {
				return
			}
			for _, piece := range kind.pieces {
				all(text+kind.between+piece, left-1)
			}
		}
		all("", kind.most)
		if read < 100 || refused < 100 {
			t.Errorf("%q: %d are read, %d refused", kind.pieces, read, refused)
		}
	}
}

func pick(r *rand.Rand, l ...string) string { return l[r.Intn(len(l))] }

// drawnFile draws a file; most of its lines are of the grammar.
func drawnFile(r *rand.Rand) string {
	var b strings.Builder
	blank := func() { b.WriteString(pick(r, " ", " ", " ", "\t", "  ", " \t ")) }
	mark := func() { b.WriteString(pick(r, "÷", "×")) }
	for range r.Intn(8) {
		if r.Intn(3) == 0 {
			blank()
		}
		if r.Intn(4) > 0 {
			mark()
			for range r.Intn(5) {
				blank()
				if r.Intn(60) == 0 {
					b.WriteString(pick(r, "041", "0000041", "D800", "110000", "÷", "+0041", "\xff", "004g", ""))
				} else {
					b.WriteString(pick(r, "0041", "0000", "0020", "00e000", "10FFFF", "10000", "aBcD", "0D7fF", fmt.Sprintf("%05x", 0xe000+r.Intn(0x100000))))
				}
				blank()
				mark()
			}
		}
		if r.Intn(3) == 0 {
			blank()
		}
		b.WriteString(pick(r, "", "", "", "#", "# x ÷ 0041", "#\xff\x00\r"))
		b.WriteString(pick(r, "\n", "\n", "\n", "\r\n", "\n\n"))
	}
	text := b.String()
	if r.Intn(3) == 0 {
		text = strings.TrimSuffix(text, "\n")
	}
	if r.Intn(4) == 0 && text != "" { // one byte is another one
		at := r.Intn(len(text))
		text = text[:at] + pick(r, "", " ", "\n", "÷", "×", "0", "a", "#", "\r", "\xc3", "\xb7", "\x97", "\x00", "\t") + text[at+1:]
	}
	return text
}

func TestP23_1_Drawn(t *testing.T) {
	r := rand.New(rand.NewSource(2301))
	read := 0
	const rows = 20000
	for range rows {
		if parsesLikewise(t, drawnFile(r)) {
			read++
		}
	}
	if read < rows/4 || read > rows*9/10 {
		t.Errorf("%d of %d are read", read, rows)
	}
}

// drawnCase draws a case; few may not be.
func drawnCase(r *rand.Rand) api.Case {
	var c api.Case
	for range r.Intn(9) {
		c.Points = append(c.Points, []int{'A', 'b', '.', '.', ' ', ' ', 'M', 'r', 0, 0xe9, 0x20ac, 0xd7ff, 0xe000, 0xffff, 0x10000, 0x10ffff}[r.Intn(16)])
	}
	for place := range len(c.Points) + 1 {
		if r.Intn(2) == 0 {
			c.Breaks = append(c.Breaks, place)
		}
	}
	if r.Intn(20) == 0 && len(c.Points) > 0 {
		c.Points[r.Intn(len(c.Points))] = []int{-1, 0xd800, 0xdfff, 0x110000, 1 << 32}[r.Intn(5)]
	}
	if r.Intn(20) == 0 && len(c.Breaks) > 0 {
		c.Breaks[r.Intn(len(c.Breaks))] += r.Intn(3) - 1
	}
	return c
}

func TestP23_2_Drawn(t *testing.T) {
	r := rand.New(rand.NewSource(2302))
	written := 0
	const rows = 20000
	for range rows {
		var l []api.Case
		for range r.Intn(6) {
			l = append(l, drawnCase(r))
		}
		want, wantErr := printByWords(l)
		prints(t, "P23.2", l, want, wantErr)
		if wantErr == nil {
			written++
			reads(t, "P23.3", want, l...)
		}
	}
	if written < rows/4 || written > rows*19/20 {
		t.Errorf("%d of %d are written", written, rows)
	}
}

func TestP23_4_Drawn(t *testing.T) {
	r := rand.New(rand.NewSource(2304))
	for _, rules := range []string{rulesFile, "else <>", "A: '.' <>\nelse ><", "A: 'M' 'r' >< \nsuppress Sp\nB: [^] <> ['.' Lower]\nelse ><"} {
		for _, s := range each(t, rules, bundleFile) {
			for range 150 {
				var l []api.Case
				for range r.Intn(6) {
					c := drawnCase(r)
					if r.Intn(2) == 0 && mayBe(c) {
						c.Breaks = placesByWords(s, c.Points)
					}
					l = append(l, c)
				}
				fails(t, "P23.4", s, l, runByWords(s, l)...)
			}
		}
	}
}

func TestP23_5_Drawn(t *testing.T) {
	r := rand.New(rand.NewSource(2305))
	for _, s := range each(t, rulesFile, bundleFile) {
		for range 300 {
			var texts [][]int
			var want []api.Case
			var wantErr error
			for range r.Intn(6) {
				c := drawnCase(r)
				c.Breaks = nil
				if !mayBe(c) {
					wantErr = api.ErrArg
				} else {
					c.Breaks = placesByWords(s, c.Points)
				}
				texts, want = append(texts, c.Points), append(want, c)
			}
			if wantErr != nil {
				want = nil
			}
			l, err := testfile.Make(s, texts)
			if !same(l, want) || err != wantErr {
				t.Fatalf("P23.5: Make(%v) = %v, %v, want %v, %v", texts, l, err, want, wantErr)
			}
			fails(t, "P23.6", s, l)
			if err == nil { // and through a file
				text, err := testfile.Print(l)
				if err != nil {
					t.Fatalf("P23.2: Print(%v): %v", l, err)
				}
				reads(t, "P23.3", text, l...)
			}
		}
	}
}
