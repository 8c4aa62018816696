package desk_test

import (
	"fmt"
	"math/rand"
	"regexp"
	"slices"
	"strconv"
	"strings"
	"testing"

	"caesura/api"
	"caesura/desk"
)

// A second version of Words, by regular expressions.
var (
	wordForm   = regexp.MustCompile(`\A *(?:("(?:[ !#-\[\]-~]|\\["\\n]|\\x[0-9a-fA-F]{2})*")|([!#-~]+))(?: |\z)`)
	escapeForm = regexp.MustCompile(`\\(?:x..|.)`)
)

func secondWords(line string) ([]string, bool) {
	var words []string
	for strings.Trim(line, " ") != "" {
		found := wordForm.FindStringSubmatch(line)
		if found == nil {
			return nil, false
		}
		word := found[2]
		if found[1] != "" {
			word = escapeForm.ReplaceAllStringFunc(found[1][1:len(found[1])-1], func(escape string) string {
				switch escape[1] {
				case 'n':
					return "\n"
				case 'x':
					n, _ := strconv.ParseUint(escape[2:], 16, 8)
					return string([]byte{byte(n)})
				}
				return escape[1:]
			})
		}
		words = append(words, word)
		line = line[len(found[0]):]
	}
	return words, true
}

func reads(t *testing.T, line string) {
	t.Helper()
	want, may := secondWords(line)
	got, err := desk.Words(line)
	if !slices.Equal(got, want) || (err == nil) != may || err != nil && err != api.ErrText {
		t.Errorf("P25.1: Words(%q) = %q, %v, want %q, %v", line, got, err, want, may)
	}
}

func TestP25_1_Words(t *testing.T) {
	for _, c := range []struct {
		line string
		want []string
	}{
		{"", nil}, {" ", nil}, {"     ", nil}, {"a", []string{"a"}}, {"  a   bc  ", []string{"a", "bc"}}, {`""`, []string{""}}, {`"" ""`, []string{"", ""}}, {`" "`, []string{" "}}, {`"a b" c`, []string{"a b", "c"}}, {`  " a "  `, []string{" a "}},
		{`"\""`, []string{`"`}}, {`"\\"`, []string{`\`}}, {`"\n"`, []string{"\n"}}, {`"\x00\xff\xAb\xcD"`, []string{"\x00\xff\xab\xcd"}}, {`"\x5c\x22\x0a"`, []string{"\\\"\n"}}, {`"\\n"`, []string{`\n`}}, {`"\\" "\\x41"`, []string{`\`, `\x41`}}, {`"\x411"`, []string{"A1"}},
		{`\n`, []string{`\n`}}, {`\`, []string{`\`}}, {`a\x41 \\`, []string{`a\x41`, `\\`}}, {"#", []string{"#"}}, {"# a", []string{"#", "a"}}, {"a#b", []string{"a#b"}}, {"!~", []string{"!~"}}, {"'a b'", []string{"'a", "b'"}},
	} {
		if got, err := desk.Words(c.line); !slices.Equal(got, c.want) || err != nil {
			t.Errorf("P25.1: Words(%q) = %q, %v, want %q", c.line, got, err, c.want)
		}
		reads(t, c.line)
	}
	for _, line := range []string{`"`, `"a`, `a"`, `a"b`, `a""`, `""a`, `"a"b`, `"a""b"`, `""""`, `"\"`, `"\`, `"a\"`, `"\N"`, `"\t"`, `"\r"`, `"\0"`, `"\ "`, `"\X41"`, `"\x"`, `"\x4"`, `"\x4" "`, `"\x4g"`, `"\xg4"`, `"\x 4"`, `"\x+4"`, `"\x`, `"\x4`, `"\x41`, "\x00", "\n", "\r", "\t", "a\tb", " \t", "\x1f", "\x7f", "\x80", "\xff", "é", "a é", "\u00a0", "\"\t\"", "\"\n\"", "\"\x1f\"", "\"\x7f\"", "\"\x80\"", "\"é\"", "\"a\"\t", "a\r", "ok \"", "\"ok\" a\"", "\"a\" \x00 b"} {
		if got, err := desk.Words(line); len(got) != 0 || err != api.ErrText {
			t.Errorf("P25.1: Words(%q) = %q, %v, want none, ErrText", line, got, err)
		}
		reads(t, line)
	}
}

// Each byte, without and with quotes, and behind each beginning of an escape.
func TestP25_1_Bytes(t *testing.T) {
	for b := range 256 {
		one := string([]byte{byte(b)})
		for _, form := range []string{"%s", "a%sb", "%sa", `"%s"`, `"%s a"`, `"a%s" b`, `"\%s"`, `"\%s4"`, `"\%s41"`, `"\x%s4"`, `"\x4%s"`, `"\x4%sa"`, `"a"%s`, `"a"%sb`, `"a" %s`} {
			reads(t, fmt.Sprintf(form, one))
		}
	}
}

// All short lines of the bytes that stand for something.
func TestP25_1_AllSmall(t *testing.T) {
	var longer func(line string, most int)
	longer = func(line string, most int) {
		reads(t, line)
		if most == 0 {
			return
		}
		for _, b := range "\" \\xn4Fg#\t" {
			longer(line+string(b), most-1)
		}
	}
	longer("", 4)
	longer(`"\`, 3)
	longer(`"\x`, 3)
	longer(`"a\x4`, 3)
}

// drawnWord is any bytes, of some more often than of others.
func drawnWord(d *rand.Rand, most int) string {
	word := make([]byte, d.Intn(most+1))
	for i := range word {
		word[i] = byte(d.Intn(256))
		if d.Intn(2) > 0 {
			word[i] = "\"\\ #\nxna0~\x7f"[d.Intn(11)]
		}
	}
	return string(word)
}

// written is a word in one of the ways in which a line may hold it.
func written(d *rand.Rand, word string) string {
	if d.Intn(3) > 0 && regexp.MustCompile(`\A[!#-~]+\z`).MatchString(word) {
		return word
	}
	text := `"`
	for _, b := range []byte(word) {
		ways := []string{fmt.Sprintf(`\x%02x`, b), fmt.Sprintf(`\x%02X`, b)}
		if b >= 0x20 && b < 0x7f && b != '"' && b != '\\' {
			ways = append(ways, string(rune(b)), string(rune(b)), string(rune(b)))
		}
		if b == '"' || b == '\\' {
			ways = append(ways, `\`+string(rune(b)))
		}
		if b == '\n' {
			ways = append(ways, `\n`)
		}
		text += ways[d.Intn(len(ways))]
	}
	return text + `"`
}

func blanks(d *rand.Rand, least int) string { return strings.Repeat(" ", least+max(0, d.Intn(6)-3)) }

// lineOf is a line of words, written in any way.
func lineOf(d *rand.Rand, words []string) string {
	text := blanks(d, 0)
	for i, word := range words {
		if i > 0 {
			text += blanks(d, 1)
		}
		text += written(d, word)
	}
	return text + blanks(d, 0)
}

func TestP25_1_Drawn(t *testing.T) {
	d := rand.New(rand.NewSource(251))
	for range 20000 {
		var words []string
		for range d.Intn(5) {
			words = append(words, drawnWord(d, 6))
		}
		text := lineOf(d, words)
		if got, err := desk.Words(text); !slices.Equal(got, words) || err != nil {
			t.Fatalf("P25.1: Words(%q) = %q, %v, want %q", text, got, err, words)
		}
		reads(t, drawnWord(d, 12))
		reads(t, text+drawnWord(d, 3))
		if text != "" {
			at := d.Intn(len(text))
			reads(t, text[:at])
			reads(t, text[:at]+text[at+1:])
			reads(t, text[:at]+drawnWord(d, 1)+text[at:])
		}
	}
}

// Long lines, of one word and of many.
func TestP25_1_Long(t *testing.T) {
	n := 1 << 20
	for _, c := range []struct {
		line string
		want []string
	}{
		{strings.Repeat(" ", n), nil}, {strings.Repeat("a", n), []string{strings.Repeat("a", n)}}, {strings.Repeat("a ", n), slices.Repeat([]string{"a"}, n)},
		{`"` + strings.Repeat(" ", n) + `"`, []string{strings.Repeat(" ", n)}}, {`"` + strings.Repeat(`\xff`, n) + `"`, []string{strings.Repeat("\xff", n)}}, {strings.Repeat(`"" `, n), make([]string, n)},
	} {
		if got, err := desk.Words(c.line); !slices.Equal(got, c.want) || err != nil {
			t.Errorf("P25.1: Words(%.20q..) is %d words, %v", c.line, len(got), err)
		}
	}
	for _, line := range []string{strings.Repeat("a ", n) + "\"", `"` + strings.Repeat("a", n), strings.Repeat(`"" `, n) + "\x00"} {
		if got, err := desk.Words(line); len(got) != 0 || err != api.ErrText {
			t.Errorf("P25.1: Words(%.20q..) is %d words, %v", line, len(got), err)
		}
	}
}

// secondQuote is a second version of Quote, byte by byte.
func secondQuote(word string) string {
	if regexp.MustCompile(`\A[!$-\[\]-~][!#-\[\]-~]*\z`).MatchString(word) {
		return word
	}
	text := ""
	for _, b := range []byte(word) {
		switch {
		case b == '"':
			text += `\"`
		case b == '\\':
			text += `\\`
		case b == '\n':
			text += `\n`
		case b < 0x20, b > 0x7e:
			text += fmt.Sprintf(`\x%02x`, b)
		default:
			text += string(rune(b))
		}
	}
	return `"` + text + `"`
}

func quotes(t *testing.T, word string) {
	t.Helper()
	got := desk.Quote(word)
	if want := secondQuote(word); got != want {
		t.Errorf("P25.2: Quote(%q) = %s, want %s", word, got, want)
	}
	if l, err := desk.Words(got); err != nil || !slices.Equal(l, []string{word}) {
		t.Errorf("P25.2: Words(%s) = %q, %v, want %q alone", got, l, err, word)
	}
}

func TestP25_2_Quote(t *testing.T) {
	for word, want := range map[string]string{
		"": `""`, "a": "a", "ab": "ab", " ": `" "`, "a b": `"a b"`, " a": `" a"`, "#": `"#"`, "#a": `"#a"`, "a#": "a#", "!": "!", "~": "~", "\"": `"\""`, "a\"": `"a\""`, "\\": `"\\"`, `a\b`: `"a\\b"`, `\x41`: `"\\x41"`, "\n": `"\n"`, "a\n#": `"a\n#"`, "\x00": `"\x00"`, "\t": `"\x09"`, "\r\n": `"\x0d\n"`, "\x1f": `"\x1f"`, "\x7f": `"\x7f"`, "\x80": `"\x80"`, "\xff~": `"\xff~"`, "é": `"\xc3\xa9"`, "\xAB": `"\xab"`, "'": "'",
	} {
		if got := desk.Quote(word); got != want {
			t.Errorf("P25.2: Quote(%q) = %s, want %s", word, got, want)
		}
	}
}

// All words of up to two bytes, and drawn ones.
func TestP25_2_AllSmall(t *testing.T) {
	quotes(t, "")
	for b := range 256 {
		quotes(t, string([]byte{byte(b)}))
		for c := range 256 {
			quotes(t, string([]byte{byte(b), byte(c)}))
		}
	}
	d := rand.New(rand.NewSource(252))
	for range 5000 {
		quotes(t, drawnWord(d, 20))
	}
	long := strings.Repeat("\xff\n\"\\ a", 1<<18)
	if l, err := desk.Words(desk.Quote(long)); err != nil || !slices.Equal(l, []string{long}) {
		t.Errorf("P25.2: a long word: %d words, %v", len(l), err)
	}
}
