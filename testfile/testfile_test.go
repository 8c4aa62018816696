package testfile_test

import (
	"fmt"
	"math"
	"slices"
	"strings"
	"testing"

	"caesura/api"
	"caesura/breaker"
	"caesura/testfile"
)

// The files of breaker's examples.
const (
	classesFile = "0041..005A ; Upper\n0061..007A ; Lower\n002E ; ATerm\n0020 ; Sp\n"
	rulesFile   = "suppress Sp\nA: ATerm Sp* >< Lower\nB: ATerm >< Sp\nC: ATerm Sp+ >< Sp\nD: ATerm Sp* <>\nelse ><\n"
	bundleFile  = "[root]\n+ Mr.\n"
)

const much = 1 << 20

func list(n ...int) []int { return n }

// points is the points of a text of good units.
func points(text string) []int {
	var l []int
	for _, r := range text {
		l = append(l, int(r))
	}
	return l
}

func made(points []int, breaks ...int) api.Case { return api.Case{Points: points, Breaks: breaks} }

func sameCase(a, b api.Case) bool {
	return slices.Equal(a.Points, b.Points) && slices.Equal(a.Breaks, b.Breaks)
}

func same(a, b []api.Case) bool { return slices.EqualFunc(a, b, sameCase) }

func sameFailure(a, b api.Failure) bool { return a.Case == b.Case && slices.Equal(a.Got, b.Got) }

// brief is a value's text, or its beginning.
func brief(v any) string { return fmt.Sprintf("%.200s", fmt.Sprint(v)) }

// reads: Parse refuses nothing, and answers these cases.
func reads(t *testing.T, promise, text string, want ...api.Case) {
	t.Helper()
	l, line, err := testfile.Parse(text)
	if err != nil || line != 0 || !same(l, want) {
		t.Errorf("%s: Parse(%.100q) = %s, %d, %v, want %s", promise, text, brief(l), line, err, brief(want))
	}
}

// refuses: Parse tells this error with that line, and no case.
func refuses(t *testing.T, promise, text string, wantLine int, want error) {
	t.Helper()
	l, line, err := testfile.Parse(text)
	if err != want || line != wantLine || len(l) != 0 {
		t.Errorf("%s: Parse(%.100q) = %d cases, %d, %v, want none, %d, %v", promise, text, len(l), line, err, wantLine, want)
	}
}

// prints: Print answers this text and this error.
func prints(t *testing.T, promise string, l []api.Case, want string, wantErr error) {
	t.Helper()
	text, err := testfile.Print(l)
	if text != want || err != wantErr {
		t.Errorf("%s: Print(%s) = %.100q (%d bytes), %v, want %.100q (%d bytes), %v", promise, brief(l), text, len(text), err, want, len(want), wantErr)
	}
}

// fails: just these cases do not go well.
func fails(t *testing.T, promise string, s *breaker.Splitter, l []api.Case, want ...api.Failure) {
	t.Helper()
	got := testfile.Run(s, l)
	if !slices.EqualFunc(got, want, sameFailure) {
		t.Errorf("%s: Run(%s) = %s, want %s", promise, brief(l), brief(got), brief(want))
	}
}

// built is a splitter that must be.
func built(t *testing.T, rules, bundle string, budget int) *breaker.Splitter {
	t.Helper()
	s, err := breaker.Build(classesFile, rules, bundle, "en", budget)
	if err != nil {
		t.Fatalf("Build(%q, %q, %d): %v", rules, bundle, budget, err)
	}
	return s
}

// each is the splitters of files by both engines, built and loaded.
func each(t *testing.T, rules, bundle string) []*breaker.Splitter {
	t.Helper()
	var all []*breaker.Splitter
	for _, budget := range list(0, much) {
		s := built(t, rules, bundle, budget)
		again, err := breaker.Load(s.Save())
		if err != nil {
			t.Fatal(err)
		}
		all = append(all, s, again)
	}
	return all
}

func TestP23_1_Examples(t *testing.T) {
	reads(t, "P23.1", "÷ 0041 × 0308 ÷ 0042 ÷ # comment", made(list(0x41, 0x308, 0x42), 0, 2, 3))
	reads(t, "P23.1", "× 0041 ×", made(list(0x41)))
	reads(t, "P23.1", "÷ 00041\t÷", made(list(0x41), 0, 1))
	reads(t, "P23.1", "")
	reads(t, "P23.1", "# a comment")
	reads(t, "P23.1", "÷", made(nil, 0))
	reads(t, "P23.1", "×", made(nil))
	for _, text := range []string{"÷ 0041", "0041 ÷", "÷ ÷", "÷0041÷", "÷ 0041 0042 ÷", "÷ ÷ 0041 ÷", "÷ 41 ÷"} {
		refuses(t, "P23.1", text, 1, api.ErrText)
	}
	refuses(t, "P23.1", "÷ D800 ÷", 1, api.ErrArg)
	refuses(t, "P23.1", "÷ 110000 ÷", 1, api.ErrArg)
}

// Lines, blanks and comments are those of the page.
func TestP23_1_Lines(t *testing.T) {
	a := made(list(0x41), 0, 1)
	for _, text := range []string{"\n", "\r\n", " \t \n\t", "\n\n\r\n# x\n\t # ÷ \n", "#", "##", "#\r", "#\x00\xff\xc3 \r\n#\xc3", " #÷ 0041", "#÷ 0041 ÷"} {
		reads(t, "P23.1: no case", text)
	}
	for _, text := range []string{
		"÷ 0041 ÷", "÷ 0041 ÷\n", "÷ 0041 ÷\r\n", "\n\n÷ 0041 ÷", "  ÷ 0041 ÷  ", "\t÷ 0041 ÷\t\n", "÷  0041\t \t÷", "÷ 0041 ÷#", "÷ 0041 ÷ # ÷ 0042", "÷ 0041 ÷#\r", "÷ 0041 ÷#\r\r\n", "÷ 0041 ÷ #x#y\n", "÷ 0041 ÷#\xff\xc3\x00", "# ÷\n÷ 0041 ÷\n#", "÷ 0041 ÷ \t\r\n",
	} {
		reads(t, "P23.1: one case", text, a)
	}
	reads(t, "P23.1", "÷ 0041 ÷\n÷ 0041 ÷", a, a)
	reads(t, "P23.1", "÷ 0041 ÷\r\n\r\n÷\n#\n× 0042 ×\r\n", a, made(nil, 0), made(list(0x42)))
	// a 0D that no 0A follows ends no line, and is no blank
	refuses(t, "P23.1", "\r", 1, api.ErrText)
	refuses(t, "P23.1", "÷ 0041 ÷\r", 1, api.ErrText)
	refuses(t, "P23.1", "\n\r\r\n", 2, api.ErrText)
	refuses(t, "P23.1", "÷ 0041 ÷\r\r\n", 1, api.ErrText)
	refuses(t, "P23.1", "÷\n÷ 0041 ÷\r÷ 0041 ÷\n", 2, api.ErrText)
	refuses(t, "P23.1", "÷ 0041\r\n÷", 1, api.ErrText)
}

func TestP23_1_Points(t *testing.T) {
	for text, point := range map[string]int{"0000": 0, "000000": 0, "0001": 1, "d7ff": 0xd7ff, "00D7FF": 0xd7ff, "E000": 0xe000, "e000": 0xe000, "0E000": 0xe000, "FFFF": 0xffff, "10000": 0x10000, "10FFFF": 0x10ffff, "10fFfF": 0x10ffff, "aBcDe": 0xabcde, "0F1234": 0xf1234, "6789": 0x6789} {
		reads(t, "P23.1", "× "+text+" ÷", made(list(point), 1))
		reads(t, "P23.1", "÷ 0020 ÷ "+text+" × 0020 ×", made(list(0x20, point, 0x20), 0, 1))
	}
	for _, text := range []string{"D800", "d800", "00D800", "DBFF", "DC00", "DFFF", "0dfff", "110000", "ffffff", "FFFFFF", "200000"} {
		refuses(t, "P23.1", "÷ "+text+" ÷", 1, api.ErrArg)
		refuses(t, "P23.1", "\n× 0020 × "+text+" × 0020 ×", 2, api.ErrArg)
	}
	for _, text := range []string{"0", "041", "0000041", "00000041", "+041", "-041", "+0041", "-0041", "0x41", "0X0041", "00_41", "0_041", "U+0041", "004G", "004g", "00 41", "0041h", "00é1", "０041", "\"0041\"", "0041;", ".041", "00\xff1", "00\x0041", "0041\v", "\f0041", "0041\u00a0", "\u20280041", "0041,", "0041..0042", "99999999999999999999"} {
		refuses(t, "P23.1", "÷ "+text+" ÷", 1, api.ErrText)
	}
}

func TestP23_1_Marks(t *testing.T) {
	reads(t, "P23.1", "× 0041 × 0042 × 0043 ×", made(points("ABC")))
	reads(t, "P23.1", "÷ 0041 ÷ 0042 ÷ 0043 ÷", made(points("ABC"), 0, 1, 2, 3))
	reads(t, "P23.1", "× 0041 ÷ 0042 × 0043 ÷", made(points("ABC"), 1, 3))
	reads(t, "P23.1", "÷ 0041 × 0042 ÷ 0043 ×", made(points("ABC"), 0, 2))
	reads(t, "P23.1", "\xc3\xb7 0041 \xc3\x97", made(points("A"), 0))
	for _, text := range []string{
		"x 0041 x", "X 0041 ÷", "+ 0041 +", "÷ 0041 |", "\xf7 0041 \xd7", "\xb7 0041 \x97", "\xc3 0041 ÷", "÷ 0041 \xc3", "\xc3\xb6 0041 ÷", "∕ 0041 ∕", "÷÷ 0041 ÷", "÷ 0041 ÷÷", "÷× 0041 ÷", "×÷", "÷÷", "× ×", "÷ ×", "÷ 0041 ÷ ÷", "÷ × 0041 ÷", "÷ 0041 × ×", "÷0041 ÷", "÷ 0041÷", "÷ 0041 ÷0042 ÷", "÷ 0041× 0042 ÷", "0041", "0041 0042", "÷ 0041 ÷ 0042", "÷ 0041 ÷ 0042 0043 ÷", "÷ 0041 # ÷", "÷ # 0041 ÷\n÷ 0041", "÷ 0041 ÷ x", "÷ 0041 ÷ ;", "x", "÷;", "\x00", "÷\x00", "÷\u00a00041\u00a0÷", "\ufeff÷ 0041 ÷", "÷ 0041 ÷ \xff", "÷\v0041\v÷", "÷ 0041 \f÷",
	} {
		line := 1
		if strings.HasPrefix(text, "÷ #") {
			line = 2
		}
		refuses(t, "P23.1", text, line, api.ErrText)
	}
}

// The first line that has a fault tells it; of one line the grammar is asked first, then the points, then how many there are.
func TestP23_1_FirstFault(t *testing.T) {
	refuses(t, "P23.1", "÷ D800 ÷\nx", 1, api.ErrArg)
	refuses(t, "P23.1", "x\n÷ D800 ÷", 1, api.ErrText)
	refuses(t, "P23.1", "÷ 0041 ÷\n# x\n\n÷ D800 ÷\nx\n", 4, api.ErrArg)
	refuses(t, "P23.1", "\r\n\r\n  \n÷ 0041 ÷ 0042\n÷ D800 ÷", 4, api.ErrText)
	for _, text := range []string{"÷ D800 +", "÷ D800", "÷ 110000 ÷ 41 ÷", "÷ 0041 ÷ DFFF ÷ 0042 0043 ÷", "÷ D800 ÷ D800 ÷ x"} {
		refuses(t, "P23.1", text, 1, api.ErrText)
	}
	full := strings.Repeat("÷ 0041 ÷\n", api.MaxCases)
	refuses(t, "P23.1", full+"÷", api.MaxCases+1, api.ErrMany)
	refuses(t, "P23.1", full+"÷ D800 ÷", api.MaxCases+1, api.ErrArg)
	refuses(t, "P23.1", full+"÷ D800", api.MaxCases+1, api.ErrText)
	refuses(t, "P23.1", full+"÷\n÷ D800 ÷\nx", api.MaxCases+1, api.ErrMany)
	refuses(t, "P23.1", full+"\n# x\n\r\n÷\nx", api.MaxCases+4, api.ErrMany)
	refuses(t, "P23.1", "x\n"+full+"÷", 1, api.ErrText)
}

func TestP23_1_Limits(t *testing.T) {
	full := strings.Repeat("÷ 0041 ÷\n", api.MaxCases)
	l, line, err := testfile.Parse("# x\n\n" + full + "\n \n# x")
	if len(l) != api.MaxCases || line != 0 || err != nil || !sameCase(l[api.MaxCases-1], made(points("A"), 0, 1)) {
		t.Errorf("P23.1: %d cases, %d, %v", len(l), line, err)
	}
	for _, head := range []string{"", "÷ 0041 ÷ #", "x", "÷ D800 ÷\n", "\n\n"} {
		refuses(t, "P23.1: too long", head+strings.Repeat("#", api.MaxFile+1-len(head)), 0, api.ErrMany)
	}
	refuses(t, "P23.1: too long", strings.Repeat("÷\n", api.MaxFile/3+1), 0, api.ErrMany)
	head := "÷ 0041 ÷ #"
	reads(t, "P23.1: at the limit", head+strings.Repeat("#", api.MaxFile-len(head)), made(points("A"), 0, 1))
	reads(t, "P23.1: at the limit", strings.Repeat(" ", api.MaxFile))
	refuses(t, "P23.1: at the limit", strings.Repeat("\n", api.MaxFile-1)+"x", api.MaxFile, api.ErrText)
	refuses(t, "P23.1: at the limit", strings.Repeat("0", api.MaxFile), 1, api.ErrText)
	refuses(t, "P23.1: at the limit", "÷ "+strings.Repeat("0", api.MaxFile-6)+" ÷", 1, api.ErrText)
}

// longest is a case whose short line has so many bytes.
func longest(bytes int) api.Case {
	n := (bytes - 2) / 8 // a point of four digits, with its mark and the blanks
	p := make([]int, n)
	for i := range bytes - 2 - 8*n {
		p[i] = 0x10000 // one of five digits
	}
	return made(p)
}

func TestP23_2_Print(t *testing.T) {
	prints(t, "P23.2", nil, "", nil)
	prints(t, "P23.2", []api.Case{made(list(0x41, 0x308, 0x42), 0, 2, 3)}, "÷ 0041 × 0308 ÷ 0042 ÷", nil)
	prints(t, "P23.2", []api.Case{{}}, "×", nil)
	prints(t, "P23.2", []api.Case{made(nil, 0)}, "÷", nil)
	prints(t, "P23.2", []api.Case{{}, made(nil, 0), {}, made(list(0x41), 1)}, "×\n÷\n×\n× 0041 ÷", nil)
	prints(t, "P23.2", []api.Case{made(list(0, 0x1f, 0xabc, 0xabcd, 0xabcde, 0x10ffff, 0xd7ff, 0xe000, 0xffff, 0x10000), 1, 4, 9)}, "× 0000 ÷ 001F × 0ABC × ABCD ÷ ABCDE × 10FFFF × D7FF × E000 × FFFF ÷ 10000 ×", nil)
	prints(t, "P23.2", []api.Case{made(points("ABC"), 0, 1, 2, 3)}, "÷ 0041 ÷ 0042 ÷ 0043 ÷", nil)
	prints(t, "P23.2", []api.Case{made(points("ABC"))}, "× 0041 × 0042 × 0043 ×", nil)
}

func TestP23_2_Refusals(t *testing.T) {
	least, most := math.MinInt, math.MaxInt
	wrong := []api.Case{
		made(nil, 1), made(nil, -1), made(nil, 0, 0), made(nil, 0, 1),
		made(points("ABC"), 1, 1), made(points("ABC"), 4), made(points("ABC"), 2, 1), made(points("ABC"), -1, 0), made(points("ABC"), 0, 3, 4), made(points("ABC"), 3, 3), made(points("ABC"), 0, 2, 1, 3), made(points("ABC"), least), made(points("ABC"), most), made(points("ABC"), 0, most), made(points("ABC"), least, 0), made(points("ABC"), 0, 1, 2, 3, 3),
		made(list(0xd800)), made(list(0xdfff)), made(list(0xdabc)), made(list(-1)), made(list(0x110000)), made(list(least)), made(list(most)), made(list(1<<32 + 0x41)), made(list(1<<32), 0, 1), made(list(-1 << 32)), made(list(0x41, 0x42, 0xdc00), 0, 3), made(list(-0x41)),
	}
	good := made(points("A"), 0, 1)
	for _, c := range wrong {
		prints(t, "P23.2", []api.Case{c}, "", api.ErrArg)
		prints(t, "P23.2", []api.Case{good, c}, "", api.ErrArg)
		prints(t, "P23.2", []api.Case{c, good}, "", api.ErrArg)
		// ahead of the file's length, behind the number of cases
		prints(t, "P23.2", []api.Case{longest(api.MaxFile + 1), c}, "", api.ErrArg)
		prints(t, "P23.2", append(make([]api.Case, api.MaxCases), c), "", api.ErrMany)
	}
	prints(t, "P23.2", make([]api.Case, api.MaxCases+1), "", api.ErrMany)
	prints(t, "P23.2", make([]api.Case, api.MaxCases), strings.Repeat("×\n", api.MaxCases-1)+"×", nil)
}

// The limit counts the bytes of all lines and the 0A between them, and none behind the last.
func TestP23_2_Length(t *testing.T) {
	for _, parts := range [][]int{{api.MaxFile}, {500002, api.MaxFile - 500003}, {2, api.MaxFile - 3}, {api.MaxFile - 3, 2}, {300000, 300001, api.MaxFile - 600003}} {
		var l []api.Case
		for _, bytes := range parts {
			l = append(l, longest(bytes))
		}
		text, err := testfile.Print(l)
		if len(text) != api.MaxFile || err != nil {
			t.Errorf("P23.2: of %v bytes: %d bytes, %v", parts, len(text), err)
		}
		reads(t, "P23.3", text, l...)
		for i := range l {
			one := slices.Clone(l)
			one[i] = longest(parts[i] + 8)
			prints(t, "P23.2", one, "", api.ErrMany)
		}
		prints(t, "P23.2", append(l, api.Case{}), "", api.ErrMany)
	}
	prints(t, "P23.2", []api.Case{longest(api.MaxFile + 1)}, "", api.ErrMany)
	prints(t, "P23.2", []api.Case{longest(api.MaxFile - 2), {}}, "", api.ErrMany)
	// a file that would be many times too long
	prints(t, "P23.2", slices.Repeat([]api.Case{longest(100000)}, 2000), "", api.ErrMany)
}

func TestP23_3_Examples(t *testing.T) {
	for text, short := range map[string]string{
		"":                                 "",
		"# x\n\n":                          "",
		"÷ 0041 × 0308 ÷ 0042 ÷ # comment": "÷ 0041 × 0308 ÷ 0042 ÷",
		" ×  000041\t×\r\n\n":              "× 0041 ×",
		"÷\n×\n":                           "÷\n×",
		"÷ 10ffff ÷\n\n#\n÷ 00abcd ×":      "÷ 10FFFF ÷\n÷ ABCD ×",
	} {
		l, _, err := testfile.Parse(text)
		if err != nil {
			t.Errorf("P23.1: Parse(%q): %v", text, err)
		}
		prints(t, "P23.3", l, short, nil)
		reads(t, "P23.3", short, l...)
	}
}

func TestP23_4_Run(t *testing.T) {
	hi := points("Hi. Mr. Fox. ok.")
	for _, s := range each(t, rulesFile, bundleFile) {
		fails(t, "P23.4", s, nil)
		fails(t, "P23.4", s, []api.Case{made(hi, 0, 4, 16), {}, made(points("a"), 0, 1)})
		fails(t, "P23.4", s, []api.Case{made(hi, 0, 4, 8, 16)}, api.Failure{Case: 0, Got: list(0, 4, 16)})
		fails(t, "P23.4", s, []api.Case{
			made(hi),
			made(hi, 0, 4, 16),
			made(hi, 0, 4),
			made(hi, 4, 16),
			made(hi, 0, 16),
			made(hi, 0, 5, 16),
			{},
			made(nil, 0),
			made(points("a")),
			made(points("A. B"), 0, 4),
			made(points("A. B"), 0, 3, 4),
			made(points("A. B"), 0, 1, 2, 3, 4),
		},
			api.Failure{Case: 0, Got: list(0, 4, 16)},
			api.Failure{Case: 2, Got: list(0, 4, 16)},
			api.Failure{Case: 3, Got: list(0, 4, 16)},
			api.Failure{Case: 4, Got: list(0, 4, 16)},
			api.Failure{Case: 5, Got: list(0, 4, 16)},
			api.Failure{Case: 7},
			api.Failure{Case: 8, Got: list(0, 1)},
			api.Failure{Case: 9, Got: list(0, 3, 4)},
			api.Failure{Case: 11, Got: list(0, 3, 4)},
		)
	}
}

// Places are counted in points, not in bytes.
func TestP23_4_Places(t *testing.T) {
	text := points("é. €. 😀. a\x00.  \u0308. Mr. 𐀀")
	for _, s := range each(t, rulesFile, bundleFile) {
		fails(t, "P23.4", s, []api.Case{made(text, 0, 3, 6, 14, 17, 22), made(text, 0, 4, 22)}, api.Failure{Case: 1, Got: list(0, 3, 6, 14, 17, 22)})
	}
	everywhere := built(t, "else <>", "", 9)
	edges := list(0, 0x7f, 0x80, 0x7ff, 0x800, 0xd7ff, 0xe000, 0xfffd, 0xffff, 0x10000, 0x10ffff)
	fails(t, "P23.4", everywhere, []api.Case{made(edges), made(edges, 0, 1, 2, 3, 4, 5, 6, 7, 8, 9, 10, 11)}, api.Failure{Case: 0, Got: list(0, 1, 2, 3, 4, 5, 6, 7, 8, 9, 10, 11)})
}

// A case that may not be does not go well, whatever a splitter says, and of it nothing is told.
func TestP23_4_MayNotBe(t *testing.T) {
	least, most := math.MinInt, math.MaxInt
	s := built(t, "else <>", "", 9)
	l := []api.Case{
		made(points("a"), 0, 1),
		made(points("a"), 1, 0), made(points("a"), 0, 1, 1), made(points("a"), 0, 0, 1), made(points("a"), 0, 1, 2), made(points("a"), -1, 0, 1), made(points("a"), 2), made(points("a"), most), made(points("a"), least, 0, 1),
		made(nil, 1), made(nil, -1),
		{},
		made(list(0xd800), 0, 1), made(list(0xdfff), 0, 1), made(list(0x110000), 0, 1), made(list(-1), 0, 1), made(list(most), 0, 1), made(list(least), 0, 1), made(list(1<<32+'a'), 0, 1), made(list('a', 0xd800), 0, 1, 2), made(list(-1)),
		made(points("a"), 0, 1),
	}
	var want []api.Failure
	for i := range l {
		if i != 0 && i != 11 && i != 21 {
			want = append(want, api.Failure{Case: i})
		}
	}
	fails(t, "P23.4", s, l, want...)
	// how many cases there are, and how long their lines would be, is no matter
	many := slices.Repeat([]api.Case{{}}, api.MaxCases+2)
	many[0], many[api.MaxCases+1] = l[1], made(nil, 0)
	fails(t, "P23.4", s, many, api.Failure{Case: 0}, api.Failure{Case: api.MaxCases + 1})
	long := longest(api.MaxFile + 8)
	fails(t, "P23.4", built(t, "else ><", "", 9), []api.Case{long}, api.Failure{Case: 0, Got: list(0, len(long.Points))})
}

func TestP23_5_Make(t *testing.T) {
	for _, s := range each(t, rulesFile, bundleFile) {
		for text, breaks := range map[string][]int{"": nil, "a": list(0, 1), "Hi. Mr. Fox. ok.": list(0, 4, 16), "é. €. A": list(0, 3, 6, 7), "Mr. Mr. A": list(0, 9), "A. B\nC. D": list(0, 3, 8, 9), "𐀀": list(0, 1), "\x00. \x00": list(0, 3, 4)} {
			l, err := testfile.Make(s, [][]int{points(text)})
			if want := []api.Case{made(points(text), breaks...)}; err != nil || !same(l, want) {
				t.Errorf("P23.5: Make(%q) = %v, %v, want %v", text, l, err, want)
			}
		}
		l, err := testfile.Make(s, [][]int{points("A. B"), nil, points("A. B"), {}, points("b")})
		if want := []api.Case{made(points("A. B"), 0, 3, 4), {}, made(points("A. B"), 0, 3, 4), {}, made(points("b"), 0, 1)}; err != nil || !same(l, want) {
			t.Errorf("P23.5: %v, %v, want %v", l, err, want)
		}
		l, err = testfile.Make(s, nil)
		if len(l) != 0 || err != nil {
			t.Errorf("P23.5: of no texts: %v, %v", l, err)
		}
	}
}

func TestP23_5_Refusals(t *testing.T) {
	s := built(t, rulesFile, bundleFile, much)
	refused := func(texts [][]int, want error) {
		t.Helper()
		if l, err := testfile.Make(s, texts); len(l) != 0 || err != want {
			t.Errorf("P23.5: Make(%s) = %d cases, %v, want %v", brief(texts), len(l), err, want)
		}
	}
	for _, point := range list(0xd800, 0xdabc, 0xdfff, 0x110000, -1, math.MaxInt, math.MinInt, 1<<32+'a', -1<<32) {
		refused([][]int{{point}}, api.ErrArg)
		refused([][]int{points("A. B"), nil, {'a', point, 'b'}}, api.ErrArg)
		refused([][]int{{point}, points("A. B")}, api.ErrArg)
		refused(append(make([][]int, api.MaxCases-1), list(point)), api.ErrArg)
		refused(append(make([][]int, api.MaxCases), list(point)), api.ErrMany)
		refused(append([][]int{{point}}, make([][]int, api.MaxCases)...), api.ErrMany)
	}
	refused(make([][]int, api.MaxCases+1), api.ErrMany)
	l, err := testfile.Make(s, make([][]int, api.MaxCases))
	if len(l) != api.MaxCases || err != nil {
		t.Errorf("P23.5: at the limit: %d cases, %v", len(l), err)
	}
	fails(t, "P23.6", s, l)
	// a text's length has no limit of its own
	long := longest(api.MaxFile + 8).Points
	l, err = testfile.Make(s, [][]int{long})
	if err != nil || !same(l, []api.Case{made(long, 0, len(long))}) {
		t.Errorf("P23.5: a long text: %s, %v", brief(l), err)
	}
}

func TestP23_6_Examples(t *testing.T) {
	for _, rules := range []string{rulesFile, "else <>", "else ><", "A: '.' <>\nelse ><", "A: ^ [^] <>\nB: <> [^] $\nelse ><"} {
		texts := [][]int{nil, points("a"), points("Hi. Mr. Fox. ok."), points("é. €. 😀. A"), points("Mr. "), points(". . ."), points("\r\n\n"), list(0xffff, 0xe000, 0x10ffff, 0xd7ff)}
		for _, s := range each(t, rules, bundleFile) {
			l, err := testfile.Make(s, texts)
			if len(l) != len(texts) || err != nil {
				t.Fatalf("P23.5: %q: %v, %v", rules, l, err)
			}
			if len(l[0].Breaks) != 0 {
				t.Errorf("P23.6: of no points: %v", l[0])
			}
			fails(t, "P23.6", s, l)
		}
	}
}

// W2: tests answer the same under every budget, of a splitter that was loaded too.
func TestW2_Tests(t *testing.T) {
	texts := [][]int{points("Hi. Mr. Fox. ok."), points("Mr. Mr. A"), points("A. B. Mr. C"), nil}
	all := each(t, rulesFile, bundleFile)
	first, err := testfile.Make(all[0], texts)
	if err != nil {
		t.Fatal(err)
	}
	without := built(t, rulesFile, "", much)
	for _, s := range all[1:] {
		l, err := testfile.Make(s, texts)
		if err != nil || !same(l, first) {
			t.Errorf("W2: %v, %v, want %v", l, err, first)
		}
		fails(t, "W2", s, first)
	}
	fails(t, "W3", without, first, api.Failure{Case: 0, Got: list(0, 4, 8, 16)}, api.Failure{Case: 1, Got: list(0, 4, 8, 9)}, api.Failure{Case: 2, Got: list(0, 3, 6, 10, 11)})
}

// The whole way: a file in the form of Unicode's is read, tried, made anew of its points and written.
func TestWhole(t *testing.T) {
	text := "# SentenceBreakTest-like\n" +
		"÷ 0041 × 002E × 0020 ÷ 0042 ÷\t#  ÷ [0.2] LATIN CAPITAL LETTER A ..\n" +
		"÷ 0041 × 002E × 0020 × 0062 ÷\t#  no boundary ahead of a small letter\r\n" +
		"÷ 004D × 0072 × 002E × 0020 × 0042 ÷\n" +
		"# EOF\n"
	l, line, err := testfile.Parse(text)
	if len(l) != 3 || line != 0 || err != nil {
		t.Fatalf("P23.1: %v, %d, %v", l, line, err)
	}
	s := built(t, rulesFile, bundleFile, much)
	fails(t, "P23.4", s, l)
	fails(t, "P23.4", built(t, rulesFile, "", much), l, api.Failure{Case: 2, Got: list(0, 4, 5)})
	var texts [][]int
	for _, c := range l {
		texts = append(texts, c.Points)
	}
	again, err := testfile.Make(s, texts)
	if err != nil || !same(again, l) {
		t.Errorf("P23.5: %v, %v, want %v", again, err, l)
	}
	prints(t, "P23.2", again, "÷ 0041 × 002E × 0020 ÷ 0042 ÷\n÷ 0041 × 002E × 0020 × 0062 ÷\n÷ 004D × 0072 × 002E × 0020 × 0042 ÷", nil)
}
