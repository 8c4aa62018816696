package propfile_test

import (
	"fmt"
	"math"
	"math/rand"
	"regexp"
	"slices"
	"strconv"
	"strings"
	"testing"

	"caesura/api"
	"caesura/propfile"
)

// spans makes spans of numbers three by three.
func spans(n ...int) []api.Span {
	var l []api.Span
	for i := 0; i+2 < len(n); i += 3 {
		l = append(l, api.Span{Low: n[i], High: n[i+1], Name: n[i+2]})
	}
	return l
}

// property makes one of names with blanks between them.
func property(names string, n ...int) api.Property {
	return api.Property{Names: strings.Fields(names), Spans: spans(n...)}
}

func same(a, b api.Property) bool {
	return slices.Equal(a.Names, b.Names) && slices.Equal(a.Spans, b.Spans)
}

func isZero(p api.Property) bool { return p.Names == nil && p.Spans == nil }

func expect(t *testing.T, promise, text string, want api.Property) {
	t.Helper()
	p, line, err := propfile.Parse(text)
	if err != nil || line != 0 || !same(p, want) {
		t.Errorf("%s: Parse(%.80q) = %v, %d, %v, want %v", promise, text, p, line, err, want)
	}
}

func expectFault(t *testing.T, promise, text string, wantLine int, want error) {
	t.Helper()
	p, line, err := propfile.Parse(text)
	if err != want || line != wantLine || !isZero(p) {
		t.Errorf("%s: Parse(%.80q) = %d names, %d spans, %d, %v, want %d, %v", promise, text, len(p.Names), len(p.Spans), line, err, wantLine, want)
	}
}

func TestP4_1_Examples(t *testing.T) {
	for text, want := range map[string]api.Property{
		"":                                      {},
		"# a comment":                           {},
		"\n\n":                                  {},
		"\n \t\n\t # x\n":                       {},
		"\r\n\r\n# x\r\n":                       {},
		"#\x00\xff\r;\xe2\x82 ":                 {},
		"0041..005A ; Upper # A..Z\n0061;Lower": property("Upper Lower", 0x41, 0x5a, 0, 0x61, 0x61, 1),
		"0062;Lower\n0041;Upper\n0061 ; Lower":  property("Lower Upper", 0x41, 0x41, 1, 0x61, 0x62, 0),
		"00041;A":                               property("A", 0x41, 0x41, 0),
		"000041;A":                              property("A", 0x41, 0x41, 0),
		"D800..DFFF;A":                          property("A", 0xd800, 0xdfff, 0),
		"0041;A\r\n0043;B\r\n":                  property("A B", 0x41, 0x41, 0, 0x43, 0x43, 1),
		"abCd..aBcE;x":                          property("x", 0xabcd, 0xabce, 0),
		"10FFFF;A\n0000;A":                      property("A", 0, 0, 0, 0x10ffff, 0x10ffff, 0),
		"0000..10FFFF;A":                        property("A", 0, 0x10ffff, 0),
		"\t 0041..0041\t \t;\t \tA_9z\t ":       property("A_9z", 0x41, 0x41, 0),
		"0041;A#":                               property("A", 0x41, 0x41, 0),
		"0041;A##\r":                            property("A", 0x41, 0x41, 0),
		"0041;" + strings.Repeat("n", 32):       property(strings.Repeat("n", 32), 0x41, 0x41, 0),
		"0041;other\n0042;Others\n0043;OTHER":   property("other Others OTHER", 0x41, 0x41, 0, 0x42, 0x42, 1, 0x43, 0x43, 2),
		"0041;A\n0042;B\n0043;A":                property("A B", 0x41, 0x41, 0, 0x42, 0x42, 1, 0x43, 0x43, 0),
		"0043..0044;A\n0041..0042;A\n0046;A\n0045;A\n0048..0049;A": property("A", 0x41, 0x46, 0, 0x48, 0x49, 0),
		"0041;A\n0042;a": property("A a", 0x41, 0x41, 0, 0x42, 0x42, 1),
	} {
		expect(t, "P4.1", text, want)
	}
}

func TestP4_1_NotOfTheGrammar(t *testing.T) {
	for _, line := range []string{
		"041;A", "0000041;A", "41;A", "1;A", "0041..42;A", "0041..0000042;A", "0041", "0041;", "0041 ; ", ";", ";A", ";;", "A",
		"0041;1A", "0041;_A", "0041;A B", "0041;A-B", "0041;A.", "0041;A;", "0041;;A", "0041;A\xc3\xa9", "0041;\xc3\xa9", "0041;A\x00", "0041;\x00A",
		"0041 .. 0042;A", "0041.. 0042;A", "0041 ..0042;A", "0041...0042;A", "0041.0042;A", "0041..;A", "..0041;A", "0041..0042..0043;A", "0041-0042;A", "0041 0042;A",
		"004G;A", "00G1;A", "+0041;A", "-0041;A", "0x41;A", "0X0041;A", "U+0041;A", "00_41;A", "0041h;A", "0041,A", "0041:A",
		"0041\r;A", "\r0041;A", "0041;A\v", "0041\u00a0;A", "\ufeff0041;A", "0041;A\f", "\x00", "0041;A //",
		"0041;" + strings.Repeat("n", 33), "110000", "0042..0041", "0041;Other B", "110000..0041;", strings.Repeat("0", 100) + ";A",
	} {
		expectFault(t, "P4.1", line, 1, api.ErrText)
		expectFault(t, "P4.1", "\r\n# x\n0030;Z\n"+line+"\nfault", 4, api.ErrText)
		expectFault(t, "P4.1", line+"\r\n0050;A", 1, api.ErrText)
	}
	expectFault(t, "P4.1: the last 0D stands ahead of no 0A", "0041;A\r\n0042;A\r", 2, api.ErrText)
	expectFault(t, "P4.1: a 0D alone", "\r", 1, api.ErrText)
	expectFault(t, "P4.1: one 0D belongs to the line's end, not two", "0041;A\r\r\n", 1, api.ErrText)
	expectFault(t, "P4.1: a 0D ahead of a blank", "0041;A\r \n", 1, api.ErrText)
	expectFault(t, "P4.1: a 0D ahead of a comment", "0041;A\r# x\n", 1, api.ErrText)
	expectFault(t, "P4.1: a 0D ends no line", "0041;A\r0042;A\n", 1, api.ErrText)
	expectFault(t, "P4.1: a comment in the midst", "0041 # ;A", 1, api.ErrText)
}

func TestP4_1_EveryByteInEachPlace(t *testing.T) {
	whole := "0041..0043 ; Ab_1"
	for at := range len(whole) {
		for b := range 256 {
			text := whole[:at] + string([]byte{byte(b)}) + whole[at+1:]
			against(t, text)
			against(t, whole[:at]+string([]byte{byte(b)})+whole[at:])
		}
	}
}

func TestP4_1_Args(t *testing.T) {
	for _, line := range []string{
		"110000;A", "FFFFFF;A", "0041..110000;A", "110000..110001;A", "110000..0041;A", "0041;Other", "0042..0041;Other", "0041..0042 ; Other # x",
	} {
		expectFault(t, "P4.1", line, 1, api.ErrArg)
		expectFault(t, "P4.1", "\n0041..0042;A\n"+line, 3, api.ErrArg)
	}
	expectFault(t, "P4.1", "0042..0041;A", 1, api.ErrOrder)
	expectFault(t, "P4.1", "10FFFF..0000;A", 1, api.ErrOrder)
	expectFault(t, "P4.1: order ahead of twice", "0041..0042;A\n0042..0041;A", 2, api.ErrOrder)
}

func TestP4_1_Twice(t *testing.T) {
	for _, line := range []string{"0043;A", "0043;B", "0041;A", "0030..0041;A", "0043..0050;C", "0000..10FFFF;B", "0042..0042;A", "0041..0043;A"} {
		expectFault(t, "P4.1", "0041..0043;A\n\n"+line+"\nfault", 3, api.ErrTwice)
		expectFault(t, "P4.1", "0050;B\n0044;B\n0041..0043;A\n"+line, 4, api.ErrTwice)
	}
	expectFault(t, "P4.1", "10FFFF;A\n10FFFF;B", 2, api.ErrTwice)
	expectFault(t, "P4.1", "0000;A\n0000;A", 2, api.ErrTwice)
	expect(t, "P4.1: side by side", "0041..0043;A\n0044;B\n0040;C", property("A B C", 0x40, 0x40, 2, 0x41, 0x43, 0, 0x44, 0x44, 1))
}

func TestP4_1_FirstLineFirst(t *testing.T) {
	faults := []struct {
		line string
		err  error
	}{
		{"x", api.ErrText}, {"110000;A", api.ErrArg}, {"0042..0041;A", api.ErrOrder}, {"0030;B", api.ErrTwice},
	}
	for _, first := range faults {
		for _, second := range faults {
			expectFault(t, "P4.1", "0030;A\n"+first.line+"\n"+second.line, 2, first.err)
		}
	}
}

func TestP4_1_MaxFile(t *testing.T) {
	full := "0041;A#" + strings.Repeat("x", api.MaxFile-7)
	expect(t, "P4.1: as long as may be", full, property("A", 0x41, 0x41, 0))
	expectFault(t, "P4.1: one byte too many", full+"x", 0, api.ErrMany)
	expectFault(t, "P4.1: nothing is read", strings.Repeat("x", api.MaxFile+1), 0, api.ErrMany)
	expect(t, "P4.1: all lines empty", strings.Repeat("\n", api.MaxFile), api.Property{})
	expectFault(t, "P4.1: the last of all lines", strings.Repeat("\n", api.MaxFile-1)+"x", api.MaxFile, api.ErrText)
	expectFault(t, "P4.1: one line of digits", strings.Repeat("0", api.MaxFile), 1, api.ErrText)
}

// numbered is a file in which each of the points from 0 on has a name of its own.
func numbered(count int) string {
	var b strings.Builder
	for i := range count {
		fmt.Fprintf(&b, "%04X;N%d\n", i, i)
	}
	return b.String()
}

func TestP4_1_MaxNames(t *testing.T) {
	most := numbered(api.MaxNames)
	p, line, err := propfile.Parse(most)
	if err != nil || line != 0 || len(p.Names) != api.MaxNames || len(p.Spans) != api.MaxNames {
		t.Errorf("P4.1: as many names as may be: %d, %d, %v", len(p.Names), line, err)
	}
	expectFault(t, "P4.1: one name more", most+"0100;M", api.MaxNames+1, api.ErrMany)
	expectFault(t, "P4.1: many ahead of twice", most+"0000;M", api.MaxNames+1, api.ErrMany)
	expectFault(t, "P4.1: order ahead of many", most+"0102..0101;M", api.MaxNames+1, api.ErrOrder)
	expectFault(t, "P4.1: Other ahead of many", most+"0100;Other", api.MaxNames+1, api.ErrArg)
	expectFault(t, "P4.1: an old name is not one more", most+"0000;N5", api.MaxNames+1, api.ErrTwice)
	if p, line, err := propfile.Parse(most + "0100;N61\n0101;N0"); err != nil || line != 0 || len(p.Spans) != api.MaxNames+2 {
		t.Errorf("P4.1: old names go on: %d, %d, %v", len(p.Spans), line, err)
	}
}

// scattered is a file of lines of one point each, none a neighbour of another.
func scattered(count int) string {
	var b strings.Builder
	for i := range count {
		fmt.Fprintf(&b, "%04X;A\n#\n \n", 2*i)
	}
	return b.String()
}

func TestP4_1_MaxSpans(t *testing.T) {
	most := scattered(api.MaxSpans)
	p, line, err := propfile.Parse(most)
	if err != nil || line != 0 || len(p.Spans) != api.MaxSpans || propfile.Check(p) != nil {
		t.Errorf("P4.1: as many lines as may be: %d, %d, %v", len(p.Spans), line, err)
	}
	next := 3*api.MaxSpans + 1
	expectFault(t, "P4.1: one line more", most+"0001;A", next, api.ErrMany)
	expectFault(t, "P4.1: many ahead of twice", most+"0000;A", next, api.ErrMany)
	expectFault(t, "P4.1: order ahead of many", most+"0003..0001;A", next, api.ErrOrder)
	expectFault(t, "P4.1: the grammar ahead of many", most+"1;A", next, api.ErrText)
	expectFault(t, "P4.1: twice on the last that may be", scattered(api.MaxSpans-1)+"0000;A\nx", next-3, api.ErrTwice)
}

var (
	lineForm = regexp.MustCompile(`^(?:([0-9A-Fa-f]{4,6})(?:\.\.([0-9A-Fa-f]{4,6}))?[ \t]*;[ \t]*([A-Za-z][A-Za-z0-9_]{0,31}))?$`)
	lineEnd  = regexp.MustCompile("\r?\n")
)

// oracle reads a file by expressions, and holds each line against all lines ahead of it. It knows nothing of the limits.
func oracle(text string) (api.Property, int, error) {
	var p api.Property
	for i, line := range lineEnd.Split(text, -1) {
		if at := strings.Index(line, "#"); at >= 0 {
			line = line[:at]
		}
		parts := lineForm.FindStringSubmatch(strings.Trim(line, " \t"))
		if parts == nil {
			return api.Property{}, i + 1, api.ErrText
		}
		if parts[0] == "" {
			continue
		}
		s := api.Span{Low: number(parts[1]), High: number(parts[1])}
		if parts[2] != "" {
			s.High = number(parts[2])
		}
		switch {
		case s.Low > 0x10ffff || s.High > 0x10ffff || parts[3] == "Other":
			return api.Property{}, i + 1, api.ErrArg
		case s.Low > s.High:
			return api.Property{}, i + 1, api.ErrOrder
		case slices.ContainsFunc(p.Spans, func(ahead api.Span) bool { return ahead.Low <= s.High && s.Low <= ahead.High }):
			return api.Property{}, i + 1, api.ErrTwice
		}
		if !slices.Contains(p.Names, parts[3]) {
			p.Names = append(p.Names, parts[3])
		}
		s.Name = slices.Index(p.Names, parts[3])
		p.Spans = append(p.Spans, s)
	}
	p.Spans = joined(p.Spans)
	return p, 0, nil
}

func number(digits string) int {
	n, err := strconv.ParseInt(digits, 16, 64)
	if err != nil {
		return math.MaxInt
	}
	return int(n)
}

// joined is the spans rising, each put to the one ahead of it where it goes on with that.
func joined(list []api.Span) []api.Span {
	slices.SortFunc(list, func(a, b api.Span) int { return a.Low - b.Low })
	var l []api.Span
	for _, s := range list {
		if n := len(l); n > 0 && l[n-1].High == s.Low-1 && l[n-1].Name == s.Name {
			l[n-1].High = s.High
			continue
		}
		l = append(l, s)
	}
	return l
}

// against holds Parse against the oracle, and what it reads against P4.4.
func against(t *testing.T, text string) {
	t.Helper()
	p, line, err := propfile.Parse(text)
	want, wantLine, wantErr := oracle(text)
	if !same(p, want) || line != wantLine || err != wantErr {
		t.Fatalf("P4.1: Parse(%q) = %v, %d, %v, want %v, %d, %v", text, p, line, err, want, wantLine, wantErr)
	}
	if err == nil {
		printed(t, p, len(text))
	}
}

// printed is P4.4 of a property that was read of a text of so many bytes.
func printed(t *testing.T, p api.Property, most int) {
	t.Helper()
	if err := propfile.Check(p); err != nil {
		t.Fatalf("P4.4: Check of what was read, %v: %v", p, err)
	}
	short, err := propfile.Print(p)
	if err != nil || len(short) > most || short != shortFile(p) {
		t.Fatalf("P4.3, P4.4: Print(%v) = %q, %v; the text had %d bytes", p, short, err, most)
	}
	q, line, err := propfile.Parse(short)
	if err != nil || line != 0 || !same(p, q) {
		t.Fatalf("P4.4: Parse(Print(%v)) = %v, %d, %v", p, q, line, err)
	}
}

// shortFile is written after the words of the chapter, name by name.
func shortFile(p api.Property) string {
	var l []string
	for i, name := range p.Names {
		for _, s := range p.Spans {
			if s.Name != i {
				continue
			}
			line := fmt.Sprintf("%04X", s.Low)
			if s.High != s.Low {
				line += fmt.Sprintf("..%04X", s.High)
			}
			l = append(l, line+";"+name)
		}
	}
	return strings.Join(l, "\n")
}

func TestP4_1_SmallTexts(t *testing.T) {
	pieces := []string{"0041", "0042", "..", ";", "A", " ", "#", "\n", "\r", "Other"}
	var grow func(text string, left int)
	grow = func(text string, left int) {
		against(t, text)
		if left == 0 {
			return
		}
		for _, piece := range pieces {
			grow(text+piece, left-1)
		}
	}
	grow("", 4)
	grow("0041;A", 3)
	grow("0041..0042", 3)
}

func randomLine(r *rand.Rand) string {
	blank := func() string { return []string{"", "", " ", "\t", " \t "}[r.Intn(5)] }
	point := func() string {
		n := []int{r.Intn(40), r.Intn(40), 0xfff0 + r.Intn(32), 0x10fff0 + r.Intn(16)}[r.Intn(4)]
		return fmt.Sprintf([]string{"%04X", "%04x", "%05X", "%06x"}[r.Intn(4)], n)
	}
	name := []string{"A", "B", "Cc", "D_4", "a"}[r.Intn(5)]
	line := blank() + point() + blank() + ";" + blank() + name + blank()
	switch r.Intn(8) {
	case 0:
		low := r.Intn(40)
		line = fmt.Sprintf("%04X..%04x;%s", low, low+r.Intn(4), name)
	case 1:
		line += "# 0041;A"
	case 2:
		line = blank()
	case 3:
		if r.Intn(6) == 0 {
			line = point() + ".." + point()[:4] + ";" + name
		}
	case 4:
		if at := r.Intn(len(line)); r.Intn(8) == 0 {
			line = line[:at] + string([]byte{byte(r.Intn(256))}) + line[at+1:]
		}
	}
	return line
}

func TestP4_1_Samples(t *testing.T) {
	r := rand.New(rand.NewSource(4))
	read := 0
	for range 8000 {
		var b strings.Builder
		for range r.Intn(9) {
			b.WriteString(randomLine(r))
			b.WriteString([]string{"\n", "\n", "\r\n"}[r.Intn(3)])
		}
		if r.Intn(2) == 0 {
			b.WriteString(randomLine(r))
		}
		against(t, b.String())
		if _, _, err := propfile.Parse(b.String()); err == nil {
			read++
		}
	}
	if read < 1500 {
		t.Errorf("only %d samples were read", read)
	}
}

func TestP4_2_Check(t *testing.T) {
	long := strings.Repeat("n", 32)
	for _, c := range []struct {
		p    api.Property
		want error
	}{
		{api.Property{}, nil},
		{api.Property{Names: []string{}, Spans: []api.Span{}}, nil},
		{property("A", 0, 0x10ffff, 0), nil},
		{property("A", 0xd800, 0xdfff, 0), nil},
		{property("A B", 1, 2, 1, 3, 3, 0), nil},
		{property("A", 1, 2, 0, 4, 4, 0), nil},
		{property("A B", 1, 2, 0, 3, 3, 1, 4, 9, 0), nil},
		{property("other OTHER Z_9 "+long, 0, 0, 0, 1, 1, 1, 2, 2, 2, 3, 3, 3), nil},
		{api.Property{Names: []string{""}, Spans: spans(1, 2, 0)}, api.ErrText},
		{api.Property{Names: []string{"A B"}, Spans: spans(1, 2, 0)}, api.ErrText},
		{property("A 1B", 1, 2, 0, 4, 4, 1), api.ErrText},
		{property("_A", 1, 2, 0), api.ErrText},
		{property("A-", 1, 2, 0), api.ErrText},
		{property("A\xff", 1, 2, 0), api.ErrText},
		{property("\u00c4", 1, 2, 0), api.ErrText},
		{property(long+"n", 1, 2, 0), api.ErrText},
		{property("A Other", 1, 2, 0, 4, 4, 1), api.ErrArg},
		{property("A B A", 1, 2, 0, 4, 4, 1, 6, 6, 2), api.ErrTwice},
		{property("A", -1, 2, 0), api.ErrArg},
		{property("A", 0, 0x110000, 0), api.ErrArg},
		{property("A", 0x110000, 1, 0), api.ErrArg},
		{property("A", 1, -1, 0), api.ErrArg},
		{property("A", math.MinInt, 1, 0), api.ErrArg},
		{property("A", 1, math.MaxInt, 0), api.ErrArg},
		{property("A", 1, 2, 0, 4, 4, 1), api.ErrArg},
		{property("A", 1, 2, 0, 4, 4, -1), api.ErrArg},
		{property("", 1, 2, 0), api.ErrArg},
		{property("A", 1, 2, math.MaxInt), api.ErrArg},
		{property("A", 2, 1, 0), api.ErrOrder},
		{property("A", 1, 3, 0, 3, 4, 0), api.ErrOrder},
		{property("A B", 1, 3, 0, 3, 4, 1), api.ErrOrder},
		{property("A B", 1, 3, 0, 0, 0, 1), api.ErrOrder},
		{property("A B", 5, 6, 0, 1, 2, 1), api.ErrOrder},
		{property("A", 1, 3, 0, 4, 4, 0), api.ErrOrder},
		{property("A B", 1, 3, 0, 5, 6, 1, 9, 8, 0), api.ErrOrder},
		{property("A B", 1, 3, 0), api.ErrLost},
		{property("A B", 1, 3, 1), api.ErrLost},
		{property("A"), api.ErrLost},
	} {
		if err := propfile.Check(c.p); err != c.want {
			t.Errorf("P4.2: Check(%v) = %v, want %v", c.p, err, c.want)
		}
		text, err := propfile.Print(c.p)
		if err != c.want || err != nil && text != "" || err == nil && text != shortFile(c.p) {
			t.Errorf("P4.3: Print(%v) = %q, %v, want %v", c.p, text, err, c.want)
		}
	}
}

// faulty are changes of a property with names A to D and four spans, each with the refusal that it alone makes, in the order of P4.2.
var faulty = []struct {
	change func(p *api.Property)
	err    error
}{
	{func(p *api.Property) { p.Names = append(p.Names, make([]string, api.MaxNames)...) }, api.ErrMany},
	{func(p *api.Property) { p.Spans = append(p.Spans, make([]api.Span, api.MaxSpans)...) }, api.ErrMany},
	{func(p *api.Property) { p.Names[3] = "4" }, api.ErrText},
	{func(p *api.Property) { p.Names[2] = "Other" }, api.ErrArg},
	{func(p *api.Property) { p.Names[1] = p.Names[0] }, api.ErrTwice},
	{func(p *api.Property) { p.Spans[3].High = 0x110000 }, api.ErrArg},
	{func(p *api.Property) { p.Spans[2].Name = 4 }, api.ErrArg},
	{func(p *api.Property) { p.Spans[0].Low = 5 }, api.ErrOrder},
	{func(p *api.Property) { p.Spans[1].Name = 0 }, api.ErrLost},
}

func TestP4_2_Order(t *testing.T) {
	for i, first := range faulty {
		for j := i; j < len(faulty); j++ {
			p := property("A B C D", 0, 1, 0, 10, 11, 1, 20, 21, 2, 30, 31, 3)
			if err := propfile.Check(p); err != nil {
				t.Fatal(err)
			}
			first.change(&p)
			if j > i {
				faulty[j].change(&p)
			}
			if err := propfile.Check(p); err != first.err {
				t.Errorf("P4.2: faults %d and %d: %v, want %v", i, j, err, first.err)
			}
		}
	}
	for _, c := range []struct {
		p    api.Property
		want error
	}{
		{property("Other 1", 1, 2, 0, 4, 4, 1), api.ErrText},
		{property("A A Other", 1, 2, 0), api.ErrArg},
		{property("Other Other", 2, 1, 0), api.ErrArg},
		{property("A A", -1, 2, 0), api.ErrTwice},
		{property("A", 2, 1, 0, 5, 5, 7), api.ErrArg},
		{property("A B", 1, 2, 0, 3, 3, 0), api.ErrOrder},
	} {
		if err := propfile.Check(c.p); err != c.want {
			t.Errorf("P4.2: Check(%v) = %v, want %v", c.p, err, c.want)
		}
	}
}

func TestP4_2_Limits(t *testing.T) {
	p, _, err := propfile.Parse(numbered(api.MaxNames))
	if err != nil || propfile.Check(p) != nil {
		t.Errorf("P4.2: as many names as may be: %v, %v", err, propfile.Check(p))
	}
	p.Names = append(p.Names, "M")
	p.Spans = append(p.Spans, api.Span{Low: 0x100, High: 0x100, Name: api.MaxNames})
	if err := propfile.Check(p); err != api.ErrMany {
		t.Errorf("P4.2: one name more: %v", err)
	}
	q := property("A")
	for i := range api.MaxSpans {
		q.Spans = append(q.Spans, api.Span{Low: 2 * i, High: 2 * i})
	}
	if err := propfile.Check(q); err != nil {
		t.Errorf("P4.2: as many spans as may be: %v", err)
	}
	printed(t, q, api.MaxFile)
	q.Spans = append(q.Spans, api.Span{Low: 0x100000, High: 0x100000})
	if err := propfile.Check(q); err != api.ErrMany {
		t.Errorf("P4.2: one span more: %v", err)
	}
	if text, err := propfile.Print(q); text != "" || err != api.ErrMany {
		t.Errorf("P4.3: one span more: %d bytes, %v", len(text), err)
	}
}

// TestP4_2_SmallProperties takes all spans of few numbers, right ones and wrong ones.
func TestP4_2_SmallProperties(t *testing.T) {
	var all []api.Span
	for low := -1; low <= 3; low++ {
		for high := -1; high <= 3; high++ {
			for name := -1; name <= 2; name++ {
				all = append(all, api.Span{Low: low, High: high, Name: name})
			}
		}
	}
	for _, names := range [][]string{nil, {"A"}, {"A", "B"}} {
		asWords(t, api.Property{Names: names})
		for _, a := range all {
			asWords(t, api.Property{Names: names, Spans: []api.Span{a}})
			for _, b := range all {
				asWords(t, api.Property{Names: names, Spans: []api.Span{a, b}})
			}
		}
	}
}

// asWords asks of a property whose names are right what P4.2 says, fault by fault.
func asWords(t *testing.T, p api.Property) {
	t.Helper()
	arg, order := false, false
	for i, s := range p.Spans {
		arg = arg || s.Low < 0 || s.High < 0 || s.Name < 0 || s.Name >= len(p.Names)
		order = order || s.Low > s.High
		if i > 0 {
			ahead := p.Spans[i-1]
			order = order || s.Low <= ahead.High || s.Low == ahead.High+1 && s.Name == ahead.Name
		}
	}
	lost := false
	for i := range p.Names {
		lost = lost || !slices.ContainsFunc(p.Spans, func(s api.Span) bool { return s.Name == i })
	}
	var want error
	switch {
	case arg:
		want = api.ErrArg
	case order:
		want = api.ErrOrder
	case lost:
		want = api.ErrLost
	}
	if err := propfile.Check(p); err != want {
		t.Fatalf("P4.2: Check(%v) = %v, want %v", p, err, want)
	}
	text, err := propfile.Print(p)
	if err != want || err != nil && text != "" {
		t.Fatalf("P4.3: Print(%v) = %q, %v, want %v", p, text, err, want)
	}
	if err == nil {
		printed(t, p, len(text))
	}
}

func TestP4_3_Print(t *testing.T) {
	for _, c := range []struct {
		p    api.Property
		want string
	}{
		{api.Property{}, ""},
		{property("Upper Lower", 0x41, 0x5a, 0, 0x61, 0x61, 1), "0041..005A;Upper\n0061;Lower"},
		{property("Lower Upper", 0x41, 0x41, 1, 0x61, 0x62, 0, 0x10ffff, 0x10ffff, 1), "0061..0062;Lower\n0041;Upper\n10FFFF;Upper"},
		{property("A", 0, 0, 0), "0000;A"},
		{property("A", 0, 0x10ffff, 0), "0000..10FFFF;A"},
		{property("A B C", 0xf, 0xabc, 2, 0xfff, 0x1000, 0, 0xffff, 0x10000, 2, 0xfffff, 0x100000, 1), "0FFF..1000;A\nFFFFF..100000;B\n000F..0ABC;C\nFFFF..10000;C"},
	} {
		text, err := propfile.Print(c.p)
		if text != c.want || err != nil {
			t.Errorf("P4.3: Print(%v) = %q, %v, want %q", c.p, text, err, c.want)
		}
	}
}

// A line of a point below 10000 with a name of 32 bytes has 38 bytes with its 0A; 27593 of them, and one of 42 bytes without, are just MaxFile.
func TestP4_3_MaxFile(t *testing.T) {
	p := property(strings.Repeat("n", 32) + " " + strings.Repeat("m", 31))
	for i := range 27593 {
		p.Spans = append(p.Spans, api.Span{Low: 2 * i, High: 2 * i})
	}
	p.Spans = append(p.Spans, api.Span{Low: 0xf000, High: 0xf001, Name: 1})
	text, err := propfile.Print(p)
	if len(text) != api.MaxFile || err != nil {
		t.Errorf("P4.3: as long as may be: %d bytes, %v", len(text), err)
	}
	printed(t, p, api.MaxFile)
	p.Names[1] += "m"
	text, err = propfile.Print(p)
	if text != "" || err != api.ErrMany || propfile.Check(p) != nil {
		t.Errorf("P4.3: one byte more: %d bytes, %v, %v", len(text), err, propfile.Check(p))
	}
}

// TestP4_4_Properties makes properties at random, not by way of a text.
func TestP4_4_Properties(t *testing.T) {
	r := rand.New(rand.NewSource(44))
	for range 5000 {
		p := randomProperty(r)
		text, err := propfile.Print(p)
		if err != nil {
			t.Fatalf("P4.3: Print(%v): %v", p, err)
		}
		printed(t, p, len(text))
	}
}

func randomProperty(r *rand.Rand) api.Property {
	count := 1 + r.Intn(5)
	var p api.Property
	for i := range count {
		p.Names = append(p.Names, "N"+strings.Repeat("_", r.Intn(5))+strconv.Itoa(i))
	}
	at := []int{0, 0xff00, 0x10f000}[r.Intn(3)]
	for i := range count + r.Intn(20) {
		s := api.Span{Low: at + r.Intn(3), Name: r.Intn(count)}
		if i < count {
			s.Name = count - 1 - i
		}
		if n := len(p.Spans); n > 0 && p.Spans[n-1].Name == s.Name {
			s.Low++
		}
		s.High = s.Low + r.Intn(3)*r.Intn(20)
		at = s.High + 1
		p.Spans = append(p.Spans, s)
	}
	return p
}

func TestP0_5_AnswersAreNewMemory(t *testing.T) {
	text := "0061;Lower\n0041..0042;Upper\n0063;Lower"
	want := property("Lower Upper", 0x41, 0x42, 1, 0x61, 0x61, 0, 0x63, 0x63, 0)
	p, _, _ := propfile.Parse(text)
	q, _, _ := propfile.Parse(text)
	names, list := p.Names[:cap(p.Names)], p.Spans[:cap(p.Spans)]
	for i := range names {
		names[i] = "changed"
	}
	for i := range list {
		list[i] = api.Span{Low: -9, High: -9, Name: -9}
	}
	if !same(q, want) {
		t.Errorf("P0.5: an answer changed with another one: %v", q)
	}
	expect(t, "P0.5", text, want)
}

// TestP0_5_ArgumentsStay: neither the lists nor the spare room behind them is changed.
func TestP0_5_ArgumentsStay(t *testing.T) {
	names := []string{"B", "A", "spare", "room"}
	list := spans(1, 2, 1, 4, 4, 0, 6, 6, 1, -7, -8, -9)
	p := api.Property{Names: names[:2], Spans: list[:3]}
	text, err := propfile.Print(p)
	if text != "0004;B\n0001..0002;A\n0006;A" || err != nil || propfile.Check(p) != nil {
		t.Errorf("P4.3: %q, %v", text, err)
	}
	if !slices.Equal(names, []string{"B", "A", "spare", "room"}) || !slices.Equal(list, spans(1, 2, 1, 4, 4, 0, 6, 6, 1, -7, -8, -9)) {
		t.Errorf("P0.5: the argument was changed: %v, %v", names, list)
	}
}
