package bundle_test

import (
	"fmt"
	"math/rand"
	"regexp"
	"slices"
	"strconv"
	"strings"
	"testing"
	"unicode/utf8"

	"caesura/api"
	"caesura/bundle"
)

// section makes one of edits that begin with + or -.
func section(locale, parent string, edits ...string) api.Section {
	s := api.Section{Locale: locale, Parent: parent}
	for _, e := range edits {
		s.Edits = append(s.Edits, api.Edit{Add: e[0] == '+', Entry: e[1:]})
	}
	return s
}

func of(sections ...api.Section) api.Bundle { return api.Bundle{Sections: sections} }

// shown is a bundle as faults are told of it, the beginning of a long one.
func shown(b api.Bundle) string { return fmt.Sprintf("%.300q", fmt.Sprintf("%+v", b.Sections)) }

func same(a, b api.Bundle) bool {
	return slices.EqualFunc(a.Sections, b.Sections, func(s, t api.Section) bool {
		return s.Locale == t.Locale && s.Parent == t.Parent && slices.Equal(s.Edits, t.Edits)
	})
}

// text is that of lines.
func text(lines ...string) string { return strings.Join(lines, "\n") }

func expect(t *testing.T, promise, text string, want api.Bundle) {
	t.Helper()
	b, line, err := bundle.Parse(text)
	if err != nil || line != 0 || !same(b, want) {
		t.Errorf("%s: Parse(%.80q) = %s, %d, %v, want %s", promise, text, shown(b), line, err, shown(want))
	}
}

func expectFault(t *testing.T, promise, text string, wantLine int, want error) {
	t.Helper()
	b, line, err := bundle.Parse(text)
	if err != want || line != wantLine || b.Sections != nil {
		t.Errorf("%s: Parse(%.80q) = %d sections, %d, %v, want %d, %v", promise, text, len(b.Sections), line, err, wantLine, want)
	}
}

func TestP6_1_Examples(t *testing.T) {
	for _, c := range []struct {
		text string
		want api.Bundle
	}{
		{"", api.Bundle{}},
		{"\n\r\n \t\r\n", api.Bundle{}},
		{"# a comment", api.Bundle{}},
		{" \t#\x00\xff\r[\xe2\x82\\", api.Bundle{}},
		{text("[en]", "+ Mr.", "+ Dr.  # a title", "[en-us]", "parent en", "- Dr."), of(section("en", "", "+Mr.", "+Dr."), section("en_US", "en", "-Dr."))},
		{"[en]\r\n+ a\r\n", of(section("en", "", "+a"))},
		{"[ zh-hant-tw ]", of(section("zh_Hant_TW", ""))},
		{"[ROOT]\n[es-419]\n[de-1996]", of(section("root", ""), section("es_419", ""), section("de_1996", ""))},
		{text("[en]", `+\s\#\\\u{41}\s`), of(section("en", "", `+ #\A `))},
		{text("[en]", "+z. B."), of(section("en", "", "+z. B."))},
		{"\t [\t en \t]\t # x\n \tparent \t de\t#\n", of(section("en", "de"))},
		{"[en]#\nparent en#", of(section("en", "en"))},
		{"[en]\n\n#\n+a\n+a\n-a\n+a", of(section("en", "", "+a", "+a", "-a", "+a"))},
		{"[en]\n++\n--\n+-\n-+\n+[en]\n- parent de", of(section("en", "", "++", "--", "+-", "-+", "+[en]", "-parent de"))},
		{"[de]\n+a\n[en]\nparent de\n-b\n[root]\n+c", of(section("de", "", "+a"), section("en", "de", "-b"), section("root", "", "+c"))},
	} {
		expect(t, "P6.1", c.text, c.want)
	}
}

func TestP6_1_Tags(t *testing.T) {
	long := "abcdefgh-" + strings.Repeat("12345678_", 6)
	for tag, want := range map[string]string{
		"en": "en", "EN": "en", "root": "root", "rOOt": "root", "roots": "roots", "roo": "roo", "abcdefgh": "abcdefgh", "ABCD": "abcd",
		"en-us": "en_US", "en_US": "en_US", "EN-uS": "en_US", "zh-HANT-tw": "zh_Hant_TW", "zh_hant_hk": "zh_Hant_HK",
		"es-419": "es_419", "de-1996": "de_1996", "en-a": "en_a", "en-A": "en_a", "en-1": "en_1", "en-U1": "en_u1", "en-1U": "en_1u",
		"en-A1BC": "en_a1bc", "en-ABC1": "en_abc1", "en-ABC": "en_abc", "en-ABCDE": "en_abcde", "en-ABCDEFGH": "en_abcdefgh", "en-ab-cd_EF": "en_AB_CD_EF",
		"en-root": "en_Root", "en-latn-a-BB-root": "en_Latn_a_BB_Root", "sr-Latn-RS-x-ABCD1234": "sr_Latn_RS_x_abcd1234",
		long + "1": strings.ReplaceAll(long, "-", "_") + "1", long: "", long + "12": "",
		"": "", "e": "", "e1": "", "1e": "", "123": "", "en-": "", "-en": "", "_": "", "en--us": "", "en-_us": "", "en us": "", "en\tus": "", "abcdefghi": "", "en-123456789": "",
		"root_US": "", "ROOT-x": "", "Root_Root": "", "en.us": "", "en-\u212a": "", "\u212aa": "", "en-\xff": "", "en\x00": "", "en\u00a0": "", "en-us]": "", "[en": "", "e\u0131": "",
	} {
		if want == "" {
			expectFault(t, "P6.1", "["+tag+"]", 1, api.ErrText)
			expectFault(t, "P6.1", "[ "+tag+"\t]", 1, api.ErrText)
			expectFault(t, "P6.1", "[xx]\nparent "+tag, 2, api.ErrText)
			continue
		}
		expect(t, "P6.1", "["+tag+"]", of(section(want, "")))
		expect(t, "P6.1", "[\t"+tag+" ]", of(section(want, "")))
		expect(t, "P6.1", "[xx]\nparent "+tag, of(section("xx", want)))
		expect(t, "P6.1", "[xx]\nparent \t "+tag+" # c", of(section("xx", want)))
	}
}

func TestP6_1_Entries(t *testing.T) {
	for written, want := range map[string]string{
		"a": "a", " a": "a", "\ta \t": "a", "a b": "a b", "a  b": "a  b", "\u00a0": "\u00a0", "\u0080\u009f": "\u0080\u009f", "\u2028": "\u2028", "\ufeff": "\ufeff", "\U0010ffff": "\U0010ffff", "\ufffd": "\ufffd",
		"a#b": "a", "a #": "a", `a\#b#c\x`: "a#b", `\\#`: `\`, `\\\#`: `\#`, `\\\\#`: `\\`, `\\s`: `\s`, `\\u{41}`: `\u{41}`, `\#`: "#", `\##`: "#", `\s`: " ", `\s\s`: "  ", ` \s `: " ", `a\s`: "a ", `a\sb`: "a b",
		`\u{0}`: "\x00", `\u{41}`: "A", `\u{000041}`: "A", `\u{a}\u{D}\u{9}`: "\n\r\t", `\u{7f}`: "\x7f", `\u{D7FF}\u{e000}`: "\ud7ff\ue000", `\u{10FFff}`: "\U0010ffff", `\u{1F600}`: "\U0001f600", `\u{20}`: " ", `\u{20}a\u{20}`: " a ", `\u{23}`: "#", `\u{5c}u{41}`: `\u{41}`,
		`}{`: "}{", "~": "~", "]": "]", "+": "+", "\u00e9\u00e9": "\u00e9\u00e9",
	} {
		expect(t, "P6.1", "[en]\n+"+written, of(section("en", "", "+"+want)))
		expect(t, "P6.1", "[en]\r\n \t- "+written+"\r\n", of(section("en", "", "-"+want)))
	}
}

func TestP6_1_NoLine(t *testing.T) {
	for _, line := range []string{
		"[e]", "[en--us]", "[123]", "[en", "en]", "[]", "[ ]", "[en]]", "[[en]", "[en] x", "[en][de]", "[en #]", "[#en]", "[en]\\#", "[e n]", "en", "x", "\\", "\\#", "]", "\x00", "\xff", "\u00a0[en]", "\ufeff[en]", "[en]\v", "\f",
		"parents en", "parent", "parent ", "parent\t#en", "parenten", "parent-en", "parent[en]", "parent en de", "parent en,", "Parent en", "PARENT en", "pparent en", "paren en", "parent\u00a0en", "parent e", "parent root_US", "parent en\\#",
		"+", "-", "+ ", "-\t", "+ #", "+#a", "-  # \\s", "+ \\x", "+ \\", "+ a\\", "+ \\ ", "+ \\ a", "+ \\S", "+ \\n", "+ \\t", "+ \\\xff", "+ \\\u00e9", "* a", "a", "=a", "'+ a'",
		"+ \\u{d800}", "+ \\u{DFFF}", "+ \\u{dc00}\\u{41}", "+ \\u{110000}", "+ \\u{ffffff}", "+ \\u{}", "+ \\u{0000041}", "+ \\u{g}", "+ \\u{4g}", "+ \\u{ 41}", "+ \\u{41 }", "+ \\u{+41}", "+ \\u{-1}", "+ \\u{0x4}", "+ \\u{4_1}", "+ \\u{41", "+ \\u41", "+ \\u", "+ \\u}", "+ \\U{41}", "+ \\u{4#}", "+ \\u{4\\}", "+ \\u {41}",
		"+ a\tb", "+ a\rb", "+ a\x00", "+ \x1f", "+ \x7f", "+ a\x7fb", "+ \xff", "+ a\x80", "+ \xc3", "+ \xc0\x80", "+ \xed\xa0\x80", "+ \xf4\x90\x80\x80", "+ \xe2\x82", "+ \v", "- \x01 # x", "+ \u00e9\xa9",
		"+ " + strings.Repeat("x", 33) + "\\", "+ " + strings.Repeat("x", 40) + "\x7f", "+ a\r#", "+ a \r ",
	} {
		for _, head := range []string{"[xx]\n", "[xx]\n# x\n+ b\n", "[xx]\r\nparent yy\r\n- c # d\r\n"} {
			expectFault(t, "P6.1", head+line, strings.Count(head, "\n")+1, api.ErrText)
			expectFault(t, "P6.1", head+" "+line+"\n[xx]\n\\", strings.Count(head, "\n")+1, api.ErrText)
		}
	}
	for _, line := range []string{"+ a", "- a", "parent en", "+ " + strings.Repeat("x", 33), "parent root"} {
		expectFault(t, "P6.1: no section has begun", line, 1, api.ErrText)
		expectFault(t, "P6.1: no section has begun", "\n# [en]\n"+line+"\n[en]", 3, api.ErrText)
	}
	expectFault(t, "P6.1: the last 0D stands ahead of no 0A", "[en]\r\n[de]\r", 2, api.ErrText)
	expectFault(t, "P6.1: the last 0D stands ahead of no 0A", "[en]\n+ a\r", 2, api.ErrText)
	expectFault(t, "P6.1: a 0D alone", "\r", 1, api.ErrText)
	expectFault(t, "P6.1: one 0D belongs to the line's end, not two", "[en]\r\r\n", 1, api.ErrText)
	expectFault(t, "P6.1: a 0D ends no line", "[en]\r[de]\n", 1, api.ErrText)
	expect(t, "P6.1: a 0D in a comment", "[en]#\r[de]\r\r\n#\r", of(section("en", "")))
}

func TestP6_1_Places(t *testing.T) {
	for _, c := range []struct {
		lines []string
		line  int
		err   error
	}{
		{[]string{"[en]", "[EN]"}, 2, api.ErrTwice},
		{[]string{"[en-us]", "[de]", "+ a", "[ EN_US ]", "\\"}, 4, api.ErrTwice},
		{[]string{"[root]", "[Root]"}, 2, api.ErrTwice},
		{[]string{"[en]", "+ a", "parent de"}, 3, api.ErrOrder},
		{[]string{"[en]", "- a", "parent de"}, 3, api.ErrOrder},
		{[]string{"[en]", "parent de", "parent de"}, 3, api.ErrTwice},
		{[]string{"[en]", "parent de", "parent fr"}, 3, api.ErrTwice},
		{[]string{"[en]", "parent de", "+ a", "parent de"}, 4, api.ErrTwice},
		{[]string{"[en]", "parent de", "+ a", "parent d"}, 4, api.ErrText},
		{[]string{"[root]", "parent en"}, 2, api.ErrArg},
		{[]string{"[ROOT]", "parent root"}, 2, api.ErrArg},
		{[]string{"[root]", "+ a", "parent en"}, 3, api.ErrArg},
		{[]string{"[root]", "parent e"}, 2, api.ErrText},
		{[]string{"[en]", "+" + strings.Repeat("x", 33)}, 2, api.ErrMany},
		{[]string{"[en]", "-" + strings.Repeat("\u20ac", 33), "\\"}, 2, api.ErrMany},
		{[]string{"[en]", "+" + strings.Repeat(`\u{41}`, 33)}, 2, api.ErrMany},
		{[]string{"[en]", "+ a" + strings.Repeat(" ", 31) + "b"}, 2, api.ErrMany},
		{[]string{"[root]", "[root_US]"}, 2, api.ErrText},
	} {
		expectFault(t, "P6.1", text(c.lines...), c.line, c.err)
	}
	expect(t, "P6.1: a parent of each section", "[en]\nparent de\n+ a\n[de]\nparent en", of(section("en", "de", "+a"), section("de", "en")))
	expect(t, "P6.1: the root as a parent", "[en]\nparent ROOT", of(section("en", "root")))
	for _, most := range []string{strings.Repeat("x", 32), strings.Repeat("\U0001f600", 32), "a" + strings.Repeat(" ", 30) + "b"} {
		expect(t, "P6.1: as many units as may be", "[en]\n+"+most, of(section("en", "", "+"+most)))
	}
	expect(t, "P6.1: blanks at the ends do not count", "[en]\n+"+strings.Repeat(" ", 99)+"a"+strings.Repeat("\t", 99), of(section("en", "", "+a")))
}

// letters is the number as two letters and more.
func letters(n int) string {
	return string([]byte{byte('a' + n/676), byte('a' + n/26%26), byte('a' + n%26)})
}

// heads is as many sections.
func heads(count int) string {
	var b strings.Builder
	for i := range count {
		fmt.Fprintf(&b, "[%s]\n", letters(i))
	}
	return b.String()
}

func TestP6_1_MaxSections(t *testing.T) {
	most := heads(api.MaxSections)
	b, line, err := bundle.Parse(most)
	if err != nil || line != 0 || len(b.Sections) != api.MaxSections || bundle.Check(b) != nil {
		t.Errorf("P6.1: as many sections as may be: %d, %d, %v", len(b.Sections), line, err)
	}
	expectFault(t, "P6.1: one section more", most+"[zzz]", api.MaxSections+1, api.ErrMany)
	expectFault(t, "P6.1: many ahead of twice", most+"[aaa]", api.MaxSections+1, api.ErrMany)
	expectFault(t, "P6.1: the grammar ahead of many", most+"[zzz", api.MaxSections+1, api.ErrText)
	expectFault(t, "P6.1: twice on the last that may be", heads(api.MaxSections-1)+"[aaa]\n\\", api.MaxSections, api.ErrTwice)
	if b, line, err := bundle.Parse(most + "parent en\n+ a"); err != nil || line != 0 || len(b.Sections[api.MaxSections-1].Edits) != 1 {
		t.Errorf("P6.1: the last section goes on: %d, %v", line, err)
	}
}

func TestP6_1_MaxEdits(t *testing.T) {
	most := "[en]\n" + strings.Repeat("+x\n", api.MaxEdits/2) + "[de]\n" + strings.Repeat("-y\n#\n", api.MaxEdits/2)
	lines := strings.Count(most, "\n")
	b, line, err := bundle.Parse(most)
	if err != nil || line != 0 || len(b.Sections) != 2 || len(b.Sections[0].Edits) != api.MaxEdits/2 || len(b.Sections[1].Edits) != api.MaxEdits/2 || bundle.Check(b) != nil {
		t.Errorf("P6.1: as many edits as may be: %d, %v", line, err)
	}
	expectFault(t, "P6.1: one edit more", most+"-x", lines+1, api.ErrMany)
	expectFault(t, "P6.1: one edit more, of another section", most+"[fr]\n+ x", lines+2, api.ErrMany)
	expectFault(t, "P6.1: the grammar ahead of many", most+"+ \\", lines+1, api.ErrText)
	expectFault(t, "P6.1: no unit ahead of many", most+"+ ", lines+1, api.ErrText)
	expectFault(t, "P6.1: a parent is no edit", most+"parent fr", lines+1, api.ErrOrder)
	if b, line, err := bundle.Parse(most + "[fr]\nparent de"); err != nil || line != 0 || len(b.Sections) != 3 {
		t.Errorf("P6.1: one section more: %d, %v", line, err)
	}
}

func TestP6_1_MaxFile(t *testing.T) {
	full := "[en]#" + strings.Repeat("x", api.MaxFile-5)
	expect(t, "P6.1: as long as may be", full, of(section("en", "")))
	expectFault(t, "P6.1: one byte too many", full+"x", 0, api.ErrMany)
	expectFault(t, "P6.1: nothing is read", strings.Repeat("x", api.MaxFile+1), 0, api.ErrMany)
	expect(t, "P6.1: all lines empty", strings.Repeat("\n", api.MaxFile), api.Bundle{})
	expectFault(t, "P6.1: the last of all lines", strings.Repeat("\n", api.MaxFile-1)+"x", api.MaxFile, api.ErrText)
	expectFault(t, "P6.1: one long entry", "[en]\n+"+strings.Repeat("x", api.MaxFile-6), 2, api.ErrMany)
	expectFault(t, "P6.1: one long number", "[en]\n+\\u{"+strings.Repeat("0", api.MaxFile-10)+"}", 2, api.ErrText)
	expectFault(t, "P6.1: many backslashes", "[en]\n+"+strings.Repeat("\\", api.MaxFile-7), 2, api.ErrText)
}

var (
	lineEnd     = regexp.MustCompile("\r?\n")
	commentForm = regexp.MustCompile(`(?s)^((?:[^#\\]|\\.)*)#.*$`)
	headForm    = regexp.MustCompile(`(?s)^\[[ \t]*(.*?)[ \t]*\]$`)
	parentForm  = regexp.MustCompile(`(?s)^parent[ \t]+(.*)$`)
	editForm    = regexp.MustCompile(`(?s)^([+-])[ \t]*(.*)$`)
	entryForm   = regexp.MustCompile(`^(?:\\[\\#s]|\\u\{[0-9A-Fa-f]{1,6}\}|[^\\#\x00-\x1f\x7f])+$`)
	escapeForm  = regexp.MustCompile(`\\(?:[\\#s]|u\{[0-9A-Fa-f]{1,6}\})`)
	tagForm     = regexp.MustCompile(`^[A-Za-z]{2,8}([-_][A-Za-z0-9]{1,8})*$`)
	rootForm    = regexp.MustCompile(`^(?i:root)[-_]`)
	fourForm    = regexp.MustCompile(`_[a-z]{4}\b`)
	twoForm     = regexp.MustCompile(`_[a-z]{2}\b`)
)

// canonical is the one form of a tag; "": the text is none.
func canonical(tag string) string {
	if !tagForm.MatchString(tag) || rootForm.MatchString(tag) || len(tag) > api.MaxTag {
		return ""
	}
	parts := strings.Split(strings.ToLower(strings.ReplaceAll(tag, "-", "_")), "_")
	for i, part := range parts[1:] {
		part = twoForm.ReplaceAllStringFunc("_"+part, strings.ToUpper)
		part = fourForm.ReplaceAllStringFunc(part, func(s string) string { return strings.ToUpper(s[:2]) + s[2:] })
		parts[i+1] = part[1:]
	}
	return strings.Join(parts, "_")
}

// decoded is the entry of a written one; false: it has a fault.
func decoded(written string) (string, bool) {
	good := utf8.ValidString(written) && entryForm.MatchString(written)
	entry := escapeForm.ReplaceAllStringFunc(written, func(escape string) string {
		switch escape[1] {
		case 's':
			return " "
		case 'u':
			n, _ := strconv.ParseInt(escape[3:len(escape)-1], 16, 64)
			good = good && n <= api.MaxPoint && (n < 0xd800 || n > 0xdfff)
			return string(rune(n))
		}
		return escape[1:]
	})
	return entry, good
}

// oracle reads a file by expressions. It knows nothing of the limits of the whole.
func oracle(text string) (api.Bundle, int, error) {
	var b api.Bundle
	for i, line := range lineEnd.Split(text, -1) {
		line = strings.Trim(commentForm.ReplaceAllString(line, "$1"), " \t")
		if line == "" {
			continue
		}
		if err := say(&b, line); err != nil {
			return api.Bundle{}, i + 1, err
		}
	}
	return b, 0, nil
}

func say(b *api.Bundle, line string) error {
	if m := headForm.FindStringSubmatch(line); m != nil {
		tag := canonical(m[1])
		if tag == "" {
			return api.ErrText
		}
		for _, s := range b.Sections {
			if s.Locale == tag {
				return api.ErrTwice
			}
		}
		b.Sections = append(b.Sections, api.Section{Locale: tag})
		return nil
	}
	if len(b.Sections) == 0 {
		return api.ErrText
	}
	s := &b.Sections[len(b.Sections)-1]
	if m := parentForm.FindStringSubmatch(line); m != nil {
		tag := canonical(m[1])
		switch {
		case tag == "":
			return api.ErrText
		case s.Locale == "root":
			return api.ErrArg
		case s.Parent != "":
			return api.ErrTwice
		case s.Edits != nil:
			return api.ErrOrder
		}
		s.Parent = tag
		return nil
	}
	m := editForm.FindStringSubmatch(line)
	if m == nil {
		return api.ErrText
	}
	entry, good := decoded(m[2])
	switch {
	case !good:
		return api.ErrText
	case utf8.RuneCountInString(entry) > api.MaxEntry:
		return api.ErrMany
	}
	s.Edits = append(s.Edits, api.Edit{Add: m[1] == "+", Entry: entry})
	return nil
}

// against holds Parse against the oracle, and what it reads against P6.4.
func against(t *testing.T, text string) bool {
	t.Helper()
	b, line, err := bundle.Parse(text)
	want, wantLine, wantErr := oracle(text)
	if !same(b, want) || line != wantLine || err != wantErr {
		t.Fatalf("P6.1: Parse(%q) = %s, %d, %v, want %s, %d, %v", text, shown(b), line, err, shown(want), wantLine, wantErr)
	}
	if err == nil {
		printed(t, b)
	}
	return err == nil
}

// printed is P6.4 of a bundle that may be, and is not too long.
func printed(t *testing.T, b api.Bundle) {
	t.Helper()
	if err := bundle.Check(b); err != nil {
		t.Fatalf("P6.4: Check(%s): %v", shown(b), err)
	}
	text, err := bundle.Print(b)
	if err != nil || text != inWords(b) {
		t.Fatalf("P6.3: Print(%s) = %.200q, %v, want %.200q", shown(b), text, err, inWords(b))
	}
	c, line, err := bundle.Parse(text)
	if err != nil || line != 0 || !same(b, c) {
		t.Fatalf("P6.4: Parse(Print(%s)) = %s, %d, %v", shown(b), shown(c), line, err)
	}
	if again, err := bundle.Print(c); again != text || err != nil {
		t.Fatalf("P6.4: Print(Parse(%.200q)) = %.200q, %v", text, again, err)
	}
}

// inWords writes a bundle after the words of the chapter.
func inWords(b api.Bundle) string {
	var l []string
	for _, s := range b.Sections {
		l = append(l, fmt.Sprintf("[%s]\n", s.Locale))
		if s.Parent != "" {
			l = append(l, fmt.Sprintf("parent %s\n", s.Parent))
		}
		for _, e := range s.Edits {
			var line []string
			points := []rune(e.Entry)
			for i, p := range points {
				one := string(p)
				switch {
				case p == 0x5c || p == 0x23:
					one = "\\" + one
				case p == 0x20 && (i == 0 || i == len(points)-1):
					one = "\\s"
				case p < 0x20 || p == 0x7f:
					one = fmt.Sprintf("\\u{%x}", p)
				}
				line = append(line, one)
			}
			l = append(l, map[bool]string{true: "+ ", false: "- "}[e.Add]+strings.Join(line, "")+"\n")
		}
	}
	return strings.Join(l, "")
}

func grow(pieces []string, text string, most int, do func(string)) {
	do(text)
	if most == 0 {
		return
	}
	for _, piece := range pieces {
		grow(pieces, text+piece, most-1, do)
	}
}

func TestP6_1_SmallTexts(t *testing.T) {
	do := func(text string) { against(t, text) }
	grow([]string{"[", "]", "en", "-", "+", "#", "\n", "\r", " ", "\\", "parent"}, "", 4, do)
	grow([]string{"[en]\n", "[EN]\n", "[root]\n", "parent de\n", "parent", " xx\n", "+a\n", "-a\n", "\n"}, "", 5, do)
	grow([]string{"\\", "#", "s", "u{", "41", "}", " ", "\t", "\r", "\n", "\xc3", "\xa9"}, "[en]\n+", 4, do)
	grow([]string{"e", "E1", "root", "-", "_", "us", "hant", " ", "419", "abcdefgh"}, "[", 4, func(text string) { against(t, text+"]") })
}

func TestP6_1_EveryByteInEachPlace(t *testing.T) {
	whole := "[en_us]\nparent de\n+ \\u{41}\\s\\\\ \xc3\xa9b\\# # x\r\n"
	for at := range len(whole) {
		for b := range 256 {
			one := string([]byte{byte(b)})
			against(t, whole[:at]+one+whole[at:])
			against(t, whole[:at]+one+whole[at+1:])
		}
		against(t, whole[:at])
	}
}

func randomLine(r *rand.Rand, tag int) string {
	blank := func() string { return []string{"", "", " ", "\t", " \t "}[r.Intn(5)] }
	tags := []string{"en", "EN-us", "zh_hant_tw", "root", "es-419", "de-1996", "aa-b", "aa-bbbbb-cc"}
	name := tags[r.Intn(len(tags))]
	line := blank()
	switch r.Intn(8) {
	case 0, 1:
		own := letters(tag) + []string{"", "-us", "_HANT-tw", "-419"}[r.Intn(4)]
		if r.Intn(9) == 0 {
			own = name
		}
		line += "[" + blank() + own + blank() + "]"
	case 2:
		line += "parent " + blank() + name
	case 3:
	default:
		line += []string{"+", "-"}[r.Intn(2)] + blank() + randomWritten(r)
	}
	line += blank()
	if r.Intn(4) == 0 {
		line += "# \\x \xff\r"
	}
	if r.Intn(40) == 0 {
		at := r.Intn(len(line) + 1)
		line = line[:at] + string([]byte{byte(r.Intn(256))}) + line[at:]
	}
	return line
}

func randomWritten(r *rand.Rand) string {
	pieces := []string{"a", "b.", " ", "\\s", "\\\\", "\\#", "\\u{9}", "\\u{1F600}", "\\u{0}", "\u00e9", "\u20ac", "\u0085", "{", "u", "-", "]"}
	written := "."
	for range 1 + r.Intn(12)*r.Intn(3) {
		written += pieces[r.Intn(len(pieces))]
	}
	return written
}

func TestP6_1_Samples(t *testing.T) {
	r := rand.New(rand.NewSource(6))
	read := 0
	for range 8000 {
		var b strings.Builder
		if r.Intn(9) > 0 {
			b.WriteString("[xx]\n")
		}
		for i := range r.Intn(9) {
			b.WriteString(randomLine(r, i))
			b.WriteString([]string{"\n", "\n", "\r\n"}[r.Intn(3)])
		}
		if r.Intn(2) == 0 {
			b.WriteString(randomLine(r, 99))
		}
		if against(t, b.String()) {
			read++
		}
	}
	if read < 1500 {
		t.Errorf("only %d samples were read", read)
	}
}

func TestP6_2_Check(t *testing.T) {
	long := strings.Repeat("\u00e9", 32)
	for _, c := range []struct {
		b    api.Bundle
		want error
	}{
		{api.Bundle{}, nil},
		{of(api.Section{Locale: "en", Edits: []api.Edit{}}), nil},
		{of(section("en", "en")), nil},
		{of(section("root", "", "+a"), section("en_US", "zz", "-\x00", "+ ", "+"+long)), nil},
		{of(section("abcdefgh_1_22_333_4444_abc_AB_Abcd_abcde", "root")), nil},
		{of(section("", "")), api.ErrText},
		{of(section("EN", "")), api.ErrText},
		{of(section("en-US", "")), api.ErrText},
		{of(section("en_us", "")), api.ErrText},
		{of(section("zh_hant", "")), api.ErrText},
		{of(section("zh_HANT", "")), api.ErrText},
		{of(section("en_ABC", "")), api.ErrText},
		{of(section("en_A1", "")), api.ErrText},
		{of(section("ROOT", "")), api.ErrText},
		{of(section("root_US", "")), api.ErrText},
		{of(section(" en", "")), api.ErrText},
		{of(section("en\n", "")), api.ErrText},
		{of(section("e", "")), api.ErrText},
		{of(section(strings.Repeat("x", 1<<20), "")), api.ErrText},
		{of(section("en", ""), section("de", ""), section("en", "")), api.ErrTwice},
		{of(section("root", ""), section("root", "de")), api.ErrTwice},
		{of(section("en", "EN")), api.ErrText},
		{of(section("en", "en_us")), api.ErrText},
		{of(section("en", " ")), api.ErrText},
		{of(section("root", "en")), api.ErrArg},
		{of(section("root", "root")), api.ErrArg},
		{of(section("root", "EN")), api.ErrText},
		{of(section("en", "", "+a", "-")), api.ErrText},
		{of(section("en", "", "+\xff")), api.ErrText},
		{of(section("en", "", "+"+long+"\xff")), api.ErrText},
		{of(section("en", "", "+"+long+"a")), api.ErrMany},
		{of(section("en", "", "+"+strings.Repeat("x", 1<<20))), api.ErrMany},
		{of(section("en", "", "+"+strings.Repeat("x", 1<<20)+"\xc3")), api.ErrText},
		{of(section("en", "", "+"+long+"a", "+")), api.ErrMany},
		{of(section("en", "", "+", "+"+long+"a")), api.ErrText},
		{of(section("en", "X", "+"+long+"a")), api.ErrText},
		{of(section("root", "en", "+")), api.ErrArg},
		{of(section("en", "", "+"), section("en", "")), api.ErrText},
		{of(section("en", "", "+"+long+"a"), section("EN", "")), api.ErrMany},
		{of(section("en", ""), section("en", "X")), api.ErrTwice},
	} {
		if err := bundle.Check(c.b); err != c.want {
			t.Errorf("P6.2: Check(%s) = %v, want %v", shown(c.b), err, c.want)
		}
		text, err := bundle.Print(c.b)
		if err != c.want || err != nil && text != "" {
			t.Errorf("P6.3: Print(%s) = %.200q, %v, want %v", shown(c.b), text, err, c.want)
		}
		if err == nil {
			printed(t, c.b)
		}
	}
}

func TestP6_2_Limits(t *testing.T) {
	var b api.Bundle
	for i := range api.MaxSections {
		s := api.Section{Locale: letters(i)}
		for range api.MaxEdits / api.MaxSections {
			s.Edits = append(s.Edits, api.Edit{Entry: "x"})
		}
		b.Sections = append(b.Sections, s)
	}
	printed(t, b)
	more := of(append(slices.Clone(b.Sections), api.Section{Locale: "zzz"})...)
	if err := bundle.Check(more); err != api.ErrMany {
		t.Errorf("P6.2: one section more: %v", err)
	}
	more.Sections = slices.Clone(b.Sections)
	more.Sections[7].Edits = append(slices.Clone(b.Sections[7].Edits), api.Edit{Entry: "x"})
	if err := bundle.Check(more); err != api.ErrMany {
		t.Errorf("P6.2: one edit more: %v", err)
	}
	more.Sections[0].Locale = "EN"
	if err := bundle.Check(more); err != api.ErrMany {
		t.Errorf("P6.2: many ahead of all else: %v", err)
	}
	if text, err := bundle.Print(more); text != "" || err != api.ErrMany {
		t.Errorf("P6.3: %d bytes, %v", len(text), err)
	}
	for _, b := range []api.Bundle{{Sections: make([]api.Section, api.MaxSections+1)}, of(api.Section{Edits: make([]api.Edit, api.MaxEdits+1)})} {
		if err := bundle.Check(b); err != api.ErrMany {
			t.Errorf("P6.2: many ahead of all else: %v", err)
		}
	}
}

func TestP6_3_Print(t *testing.T) {
	for _, c := range []struct {
		b    api.Bundle
		want string
	}{
		{api.Bundle{}, ""},
		{of(section("en", "")), "[en]\n"},
		{of(section("en_US", "en", "+ #\\A ", "-a b")), "[en_US]\nparent en\n+ \\s\\#\\\\A\\s\n- a b\n"},
		{of(section("de", "", "+ ", "+  ", "+   ", "- a  b ")), "[de]\n+ \\s\n+ \\s\\s\n+ \\s \\s\n- \\sa  b\\s\n"},
		{of(section("root", "", "-\x00\t\n\r\x1f\x7f\u0080\u00a0\u2028", "+\U0010ffff")), "[root]\n- \\u{0}\\u{9}\\u{a}\\u{d}\\u{1f}\\u{7f}\u0080\u00a0\u2028\n+ \U0010ffff\n"},
		{of(section("en", "", "++", "--", "+]", "+u{41}", "+\\u{41}")), "[en]\n+ +\n- -\n+ ]\n+ u{41}\n+ \\\\u{41}\n"},
	} {
		if text, err := bundle.Print(c.b); text != c.want || err != nil {
			t.Errorf("P6.3: Print(%s) = %q, %v, want %q", shown(c.b), text, err, c.want)
		}
		printed(t, c.b)
	}
	for point := range 0x3000 {
		entry := string(rune(point))
		printed(t, of(section("en", "", "+"+entry, "-"+entry+entry+entry)))
	}
}

// With its 5 bytes of head, 15887 lines of 66 bytes and one of 29 bytes are just MaxFile.
func TestP6_3_MaxFile(t *testing.T) {
	s := section("en", "")
	for range 15887 {
		s.Edits = append(s.Edits, api.Edit{Add: true, Entry: strings.Repeat("\u00e9", 31) + "a"})
	}
	s.Edits = append(s.Edits, api.Edit{Entry: strings.Repeat("x", 26)})
	text, err := bundle.Print(of(s))
	if len(text) != api.MaxFile || err != nil {
		t.Errorf("P6.3: as long as may be: %d bytes, %v", len(text), err)
	}
	printed(t, of(s))
	s.Edits[0].Entry = strings.Repeat("\u00e9", 32)
	text, err = bundle.Print(of(s))
	if text != "" || err != api.ErrMany || bundle.Check(of(s)) != nil {
		t.Errorf("P6.3: one byte more: %d bytes, %v, %v", len(text), err, bundle.Check(of(s)))
	}
}

// TestP6_4_GrownTooLong reads a file whose one form has a blank more on each line.
func TestP6_4_GrownTooLong(t *testing.T) {
	line := "+" + strings.Repeat("\u20ac", 16) + "ab\n"
	text := "[en]\n" + strings.Repeat(line, api.MaxEdits)
	b, at, err := bundle.Parse(text)
	if err != nil || at != 0 || len(text) > api.MaxFile || bundle.Check(b) != nil {
		t.Fatalf("P6.4: %d bytes: %d, %v, %v", len(text), at, err, bundle.Check(b))
	}
	if text, err := bundle.Print(b); text != "" || err != api.ErrMany {
		t.Errorf("P6.4: %d bytes, %v", len(text), err)
	}
	b.Sections[0].Edits = b.Sections[0].Edits[:(api.MaxFile-5)/(len(line)+1)]
	printed(t, b)
}

// TestP6_4_Bundles makes bundles at random, not by way of a text.
func TestP6_4_Bundles(t *testing.T) {
	r := rand.New(rand.NewSource(64))
	for range 5000 {
		printed(t, randomBundle(r))
	}
}

func randomBundle(r *rand.Rand) api.Bundle {
	points := []rune{0, 9, 0xa, 0xd, 0x1f, 0x20, 0x20, 0x20, 0x23, 0x2b, 0x2d, 0x5b, 0x5c, 0x5c, 0x61, 0x73, 0x75, 0x7b, 0x7d, 0x7e, 0x7f, 0x80, 0xa0, 0xd7ff, 0xe000, 0xfffd, 0xffff, 0x10000, 0x10ffff}
	tails := []string{"", "_US", "_Hant_TW", "_419", "_1996", "_x", "_a1b2c3d4"}
	var b api.Bundle
	for i := range r.Intn(5) {
		s := api.Section{Locale: letters(r.Intn(9)*26+i) + tails[r.Intn(len(tails))]}
		if r.Intn(2) == 0 {
			s.Parent = letters(r.Intn(500)) + tails[r.Intn(len(tails))]
		}
		if i == 2 {
			s = api.Section{Locale: "root"}
		}
		for range r.Intn(6) {
			entry := ""
			for range 1 + r.Intn(api.MaxEntry) {
				entry += string(points[r.Intn(len(points))])
			}
			s.Edits = append(s.Edits, api.Edit{Add: r.Intn(2) == 0, Entry: entry})
		}
		b.Sections = append(b.Sections, s)
	}
	return b
}

// TestP6_5_AnyBytes: whatever is handed in, nothing panics, and the three calls agree.
func TestP6_5_AnyBytes(t *testing.T) {
	r := rand.New(rand.NewSource(65))
	const letters = "[]en_-+# \\su{4}\n\r\tparent\xc3\xa9\xff\x00"
	some := func(most int) string {
		text := make([]byte, r.Intn(most))
		for i := range text {
			text[i] = letters[r.Intn(len(letters))]
		}
		return string(text)
	}
	for range 20000 {
		against(t, some(40))
		b := of(api.Section{Locale: some(4), Parent: some(4), Edits: []api.Edit{{Entry: some(40)}}}, api.Section{Locale: "en", Parent: some(3)})
		text, err := bundle.Print(b)
		if checked := bundle.Check(b); checked != err || err != nil && text != "" {
			t.Fatalf("P6.3: Print(%s) = %q, %v; Check: %v", shown(b), text, err, checked)
		}
		if err == nil {
			printed(t, b)
		}
	}
}

func TestP0_5_AnswersAreNewMemory(t *testing.T) {
	text := "[en]\n+a\n+b\n+c\n[de]\nparent en\n-d\n-e\n-f\n[fr]\n+g"
	want := of(section("en", "", "+a", "+b", "+c"), section("de", "en", "-d", "-e", "-f"), section("fr", "", "+g"))
	b, _, _ := bundle.Parse(text)
	c, _, _ := bundle.Parse(text)
	edits := b.Sections[0].Edits[:cap(b.Sections[0].Edits)]
	for i := range edits {
		edits[i] = api.Edit{Entry: "changed"}
	}
	if !same(of(b.Sections[1:]...), of(want.Sections[1:]...)) {
		t.Errorf("P0.5: one list of an answer changed with another one: %s", shown(b))
	}
	sections := b.Sections[:cap(b.Sections)]
	for i := range sections {
		sections[i] = api.Section{Locale: "changed"}
	}
	if !same(c, want) {
		t.Errorf("P0.5: an answer changed with another one: %s", shown(c))
	}
	expect(t, "P0.5", text, want)
}

// TestP0_5_ArgumentsStay: neither the lists nor the spare room behind them is changed.
func TestP0_5_ArgumentsStay(t *testing.T) {
	fresh := func() []api.Section {
		return []api.Section{section("en", "", "+b", "-a", "+spare"), section("de", "en"), section("SPARE", "", "+")}
	}
	sections := fresh()
	sections[0].Edits = sections[0].Edits[:2]
	text, err := bundle.Print(of(sections[:2]...))
	if text != "[en]\n+ b\n- a\n[de]\nparent en\n" || err != nil || bundle.Check(of(sections[:2]...)) != nil {
		t.Errorf("P6.3: %q, %v", text, err)
	}
	sections[0].Edits = sections[0].Edits[:3]
	if !same(of(sections...), of(fresh()...)) {
		t.Errorf("P0.5: the argument was changed: %s", shown(of(sections...)))
	}
}
