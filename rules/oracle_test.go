package rules_test

import (
	"fmt"
	"maps"
	"regexp"
	"slices"
	"strconv"
	"strings"
	"testing"
	"unicode/utf8"

	"caesura/api"
	"caesura/expr"
	"caesura/ranges"
	"caesura/rules"
)

var (
	tokenForm = regexp.MustCompile(`^(?:[A-Za-z][A-Za-z0-9_]*|'[^\x00-\x1f\x7f]'|\\u\{[0-9A-Fa-f]{1,6}\}|><|<>|\.\.|[=:()\[\]^$|*+?])`)
	lineForm  = regexp.MustCompile("\r?\n")
	itemForm  = `(?:w|p(?:,p)?)`
	setForm   = regexp.MustCompile(`\[\^?` + itemForm + `*\]|` + itemForm)
	oneSet    = regexp.MustCompile(`^(?:` + setForm.String() + `)$`)
	ruleForm  = regexp.MustCompile(`^\^?[s|]*m[s|]*\$?$`)
	shrinking = []*regexp.Regexp{regexp.MustCompile(`s[*+?]`), regexp.MustCompile(`ss`), regexp.MustCompile(`\([s|]*\)`)}
)

// piece is a token: its letter (w a word, p a point, m a mark, a comma for the two dots; the signs are their own), its text, its point.
type piece struct {
	letter string
	text   string
	point  int
}

// pieces cuts a line; false, if it cannot be cut.
func pieces(line string) ([]piece, bool) {
	var list []piece
	for {
		line = strings.TrimLeft(line, " \t")
		if line == "" || line[0] == '#' {
			return list, true
		}
		found := tokenForm.FindString(line)
		if found == "" || !utf8.ValidString(found) || len(found) > 32 && found[0] != '\\' {
			return nil, false
		}
		line = line[len(found):]
		p := piece{letter: found, text: found}
		switch {
		case found[0] == '\'':
			r, _ := utf8.DecodeRuneInString(found[1:])
			p = piece{"p", found, int(r)}
		case found[0] == '\\':
			n, _ := strconv.ParseInt(found[3:len(found)-1], 16, 64)
			if n > api.MaxPoint {
				return nil, false
			}
			p = piece{"p", found, int(n)}
		case found == "><" || found == "<>":
			p.letter = "m"
		case found == "..":
			p.letter = ","
		case strings.ContainsAny(found[:1], "=:()[]^$|*+?"):
		default:
			p.letter = "w"
		}
		list = append(list, p)
	}
}

func letters(list []piece) string {
	var b strings.Builder
	for _, p := range list {
		b.WriteString(p.letter)
	}
	return b.String()
}

// isRule asks of the letters behind a rule's colon: all that is an expression shrinks away.
func isRule(line string) bool {
	line = setForm.ReplaceAllString(line, "s")
	for held := ""; held != line; {
		held = line
		for _, form := range shrinking {
			line = form.ReplaceAllString(line, "s")
		}
	}
	return ruleForm.MatchString(line)
}

// lineSort is which of the lines it is; "": none.
func lineSort(list []piece) string {
	all := letters(list)
	first := list[0].text
	switch {
	case strings.HasPrefix(all, "w:"):
		if isRule(all[2:]) {
			return "rule"
		}
	case first == "let" && strings.HasPrefix(all, "ww=") && oneSet.MatchString(all[3:]):
		return "let"
	case first == "skip" && oneSet.MatchString(all[1:]):
		return "skip"
	case first == "suppress" && (all == "w" || oneSet.MatchString(all[1:])):
		return "suppress"
	case first == "else" && all == "wm":
		return "else"
	}
	return ""
}

// words is a second reader of files of rules, after the chapter's words.
type words struct {
	lets                     map[string]api.Set
	classes                  map[string]bool
	rules                    api.Rules
	skip                     api.Set
	skipped, suppressed, end bool
}

// parseAfterWords is Parse.
func parseAfterWords(file string) (api.Rules, int, error) {
	if len(file) > 1<<20 {
		return api.Rules{}, 0, api.ErrMany
	}
	w := &words{lets: map[string]api.Set{}, classes: map[string]bool{}, rules: api.Rules{Suppress: -1}}
	for i, line := range lineForm.Split(file, -1) {
		if err := w.line(line); err != nil {
			return api.Rules{}, i + 1, err
		}
	}
	if !w.end {
		return api.Rules{}, 0, api.ErrShort
	}
	return w.rules, 0, nil
}

func (w *words) line(line string) error {
	list, ok := pieces(line)
	if !ok {
		return api.ErrText
	}
	if len(list) == 0 {
		return nil
	}
	all := letters(list)
	for end := range len(all) + 1 {
		if strings.Count(all[:end], "(")-strings.Count(all[:end], ")") > 32 {
			return api.ErrMany
		}
	}
	sort := lineSort(list)
	if sort == "" || w.end {
		return api.ErrText
	}
	if sort == "rule" && len(w.rules.Rules) == 64 || sort == "let" && len(w.lets) == 64 {
		return api.ErrMany
	}
	body := map[string]int{"rule": 2, "let": 3, "skip": 1, "suppress": 1, "else": 1}[sort]
	if err := w.setFaults(list[body:]); err != nil {
		return err
	}
	for i, p := range list[body:] {
		if _, is := w.lets[p.text]; p.letter == "w" && !is {
			w.classes[list[body+i].text] = true
		}
	}
	name := list[min(1, len(list)-1)].text
	switch _, twice := w.lets[name]; {
	case sort == "let" && w.classes[name]:
		return api.ErrOrder
	case sort == "let" && twice, sort == "skip" && w.skipped, sort == "suppress" && w.suppressed:
		return api.ErrTwice
	}
	switch sort {
	case "rule":
		return w.rule(list[0].text, list[2:])
	case "let":
		w.lets[name] = w.set(list[3:])
	case "skip":
		w.skip, w.skipped = w.set(list[1:]), true
	case "suppress":
		w.suppressed, w.rules.Suppress, w.rules.Trail = true, len(w.rules.Rules), w.set(list[1:])
		return expr.Check(of(w.rules.Trail))
	case "else":
		w.end, w.rules.Else = true, list[1].text == "<>"
	}
	return nil
}

// setFaults are those that the sets of a line have.
func (w *words) setFaults(list []piece) error {
	inside := false
	for _, p := range list {
		switch {
		case p.letter == "[" || p.letter == "]":
			inside = p.letter == "["
		case inside && p.letter == "w" && w.lets[p.text].Not:
			return api.ErrArg
		}
	}
	for i, p := range list {
		if p.letter == "," && list[i-1].point > list[i+1].point {
			return api.ErrOrder
		}
	}
	return nil
}

// set is what the pieces of one set, or none, stand for. (The ends of a range are points of it, too.)
func (w *words) set(list []piece) api.Set {
	var s api.Set
	names := map[string]bool{}
	var points []api.Range
	for i, p := range list {
		switch {
		case p.letter == "^":
			s.Not = true
		case p.letter == "w":
			let, is := w.lets[p.text]
			if !is {
				let = api.Set{Names: []string{p.text}}
			}
			s.Not = s.Not || let.Not
			for _, name := range let.Names {
				names[name] = true
			}
			points = append(points, let.Points...)
		case p.letter == ",":
			points = append(points, api.Range{Low: list[i-1].point, High: list[i+1].point})
		case p.letter == "p":
			points = append(points, api.Range{Low: p.point, High: p.point})
		}
	}
	s.Names = slices.Sorted(maps.Keys(names))
	s.Points, _ = ranges.Normal(points)
	return s
}

func (w *words) rule(name string, list []piece) error {
	for _, other := range w.rules.Rules {
		if other.Name == name {
			return api.ErrTwice
		}
	}
	at := slices.IndexFunc(list, func(p piece) bool { return p.letter == "m" })
	left, right := list[:at], list[at+1:]
	r := api.Rule{Name: name, Break: list[at].text == "<>"}
	if len(left) > 0 && left[0].letter == "^" {
		r.Start, left = true, left[1:]
	}
	if n := len(right); n > 0 && right[n-1].letter == "$" {
		r.End, right = true, right[:n-1]
	}
	r.Left, r.Right = w.expr(left), w.expr(right)
	for _, e := range []api.Expr{r.Left, r.Right} {
		if err := expr.Check(e); err != nil {
			return err
		}
	}
	if w.skipped {
		var err, err2 error
		r.Left, err = expr.Skip(r.Left, w.skip)
		r.Right, err2 = expr.Skip(r.Right, w.skip)
		if err != nil || err2 != nil {
			return api.ErrMany
		}
	}
	w.rules.Rules = append(w.rules.Rules, r)
	return nil
}

// cutAt cuts pieces that stand in no brackets where the letter stands.
func cutAt(list []piece, letter string) [][]piece {
	cuts := [][]piece{nil}
	deep := 0
	for _, p := range list {
		deep += strings.Count("([", p.letter) - strings.Count(")]", p.letter)
		if deep == 0 && p.letter == letter {
			cuts = append(cuts, nil)
			continue
		}
		cuts[len(cuts)-1] = append(cuts[len(cuts)-1], p)
	}
	return cuts
}

// expr cuts an expression into smaller ones, from the outside on.
func (w *words) expr(list []piece) api.Expr {
	if rows := cutAt(list, "|"); len(rows) > 1 {
		e := alt()
		for _, row := range rows {
			if part := w.expr(row); part.Kind == api.ExprAlt {
				e.Parts = append(e.Parts, part.Parts...)
			} else {
				e.Parts = append(e.Parts, part)
			}
		}
		return e
	}
	row := seq()
	for len(list) > 0 {
		size := 1
		if list[0].letter != "(" {
			size = setForm.FindStringIndex(letters(list))[1]
		} else {
			for deep := 1; deep > 0; size++ {
				deep += strings.Count("(", list[size].letter) - strings.Count(")", list[size].letter)
			}
		}
		core := list[:size]
		list = list[size:]
		var part api.Expr
		if core[0].letter == "(" {
			part = w.expr(core[1 : size-1])
		} else {
			part = of(w.set(core))
		}
		for len(list) > 0 && strings.Contains("*+?", list[0].letter) {
			part = node(map[string]int{"*": api.ExprStar, "+": api.ExprPlus, "?": api.ExprOpt}[list[0].letter], part)
			list = list[1:]
		}
		switch part.Kind {
		case api.ExprEmpty:
		case api.ExprSeq:
			row.Parts = append(row.Parts, part.Parts...)
		default:
			row.Parts = append(row.Parts, part)
		}
	}
	switch len(row.Parts) {
	case 0:
		return empty()
	case 1:
		return row.Parts[0]
	}
	return row
}

// token is one of many, in words that files of rules have, and some that they do not have.
func (d drawn) token() string {
	return pick(d, "A", "B", "N", "P", "let", "skip", "else", "suppress", "'a'", "'b'", "'#'", `\u{62}`, `\u{20}`, "><", "<>", "..", "=", ":", "(", ")", "[", "]", "^", "$", "|", "*", "+", "?", "[^", "()", "'a'..'c'", "'c'..'a'", "[N]", "[A B]", "[]", "#", ".", "'", `\u{110000}`, "_", "\r", "\u00e9")
}

func (d drawn) setText() string {
	items := func(most int) string {
		var list []string
		for range d.Intn(most) {
			list = append(list, pick(d, "A", "B", "C", "P", "Q", "N", "'a'", "'b'", "'c'..'e'", `\u{61}..'d'`, "'z'", "Other"))
		}
		return strings.Join(list, " ")
	}
	switch d.Intn(4) {
	case 0:
		return "[" + items(4) + "]"
	case 1:
		return "[^ " + items(3) + "]"
	}
	return pick(d, "A", "B", "C", "P", "Q", "N", "'a'", "'b'..'d'", `\u{7f}`)
}

func (d drawn) exprText(deep int) string {
	var b strings.Builder
	for range d.Intn(4) {
		switch n := d.Intn(8); {
		case n == 0 && deep > 0:
			b.WriteString("(" + d.exprText(deep-1) + ")")
		case n == 1:
			b.WriteString(" | ")
			continue
		default:
			b.WriteString(" " + d.setText())
		}
		if d.Intn(3) == 0 {
			b.WriteString(pick(d, "*", "+", "?", "*?"))
		}
	}
	return b.String()
}

func (d drawn) lineText() string {
	switch d.Intn(8) {
	case 0, 1:
		return "let " + pick(d, "N", "P", "Q", "A", "D") + " = " + d.setText()
	case 2:
		return pick(d, "skip "+d.setText(), "suppress "+d.setText(), "suppress", "# x", "")
	}
	return pick(d, "A", "R", "S", "T", "let", "else") + ":" + pick(d, "", "", "^ ") + d.exprText(3) + pick(d, " >< ", "<>") + d.exprText(3) + pick(d, "", "", " $")
}

// spoiled is a line with some tokens put in, or bytes taken away.
func (d drawn) spoiled(line string) string {
	at := d.Intn(len(line) + 1)
	if d.bool() {
		return line[:at] + pick(d, "", " ") + d.token() + pick(d, "", " ") + line[at:]
	}
	return line[:at] + line[min(at+1+d.Intn(3), len(line)):]
}

// file is a text, most often one that is read.
func (d drawn) file() string {
	var lines []string
	for range d.Intn(6) {
		lines = append(lines, d.lineText())
	}
	lines = append(lines, "else "+pick(d, "<>", "><"))
	for d.Intn(4) == 0 {
		at := d.Intn(len(lines))
		lines[at] = d.spoiled(lines[at])
	}
	return strings.Join(lines, pick(d, "\n", "\r\n"))
}

func expectLikeWords(t *testing.T, file string) error {
	t.Helper()
	want, wantLine, wantErr := parseAfterWords(file)
	r, line, err := rules.Parse(file)
	if err != wantErr || line != wantLine || shown(r) != shown(want) {
		t.Fatalf("P9.1: Parse(%q) = %s, %d, %v, want %s, %d, %v", file, shown(r), line, err, shown(want), wantLine, wantErr)
	}
	return err
}

func TestP9_1_Samples(t *testing.T) {
	d := newDrawn(91)
	told := map[error]int{}
	for range 25000 {
		told[expectLikeWords(t, d.file())]++
	}
	for _, err := range []error{nil, api.ErrText, api.ErrArg, api.ErrOrder, api.ErrTwice} {
		if told[err] < 150 {
			t.Errorf("P9.1: only %d samples with %v", told[err], err)
		}
	}
}

// TestP9_1_Soup: lines of any tokens.
func TestP9_1_Soup(t *testing.T) {
	d := newDrawn(911)
	told := map[error]int{}
	for range 30000 {
		line := pick(d, "A: ", "let B = ", "suppress ", "skip ", "A: >< ", "A: [", "A: (", "")
		for range d.Intn(7) {
			line += d.token() + pick(d, "", " ")
		}
		if d.bool() {
			line += pick(d, " ><", " <> A", ") ><", "] ><")
		}
		told[expectLikeWords(t, "let N = [^ 'b' B]\nlet P = 'c'\n"+line+"\nelse <>")]++
	}
	for _, err := range []error{nil, api.ErrText, api.ErrArg, api.ErrOrder} {
		if told[err] < 60 {
			t.Errorf("P9.1: only %d samples with %v", told[err], err)
		}
	}
}

// TestP9_1_AllShort: all lines of up to so many tokens behind a rule's colon.
func TestP9_1_AllShort(t *testing.T) {
	tokens := []string{"A ", "'a'", "><", "..", "(", ")", "[", "]", "^", "$", "|", "*"}
	fine := 0
	var all func(line string, more int)
	all = func(line string, more int) {
		if expectLikeWords(t, "R:"+line+"\nelse <>") == nil {
			fine++
		}
		for _, token := range tokens {
			if more > 0 {
				all(line+token, more-1)
			}
		}
	}
	all("", 4)
	if fine < 200 {
		t.Errorf("P9.1: only %d short lines were read", fine)
	}
}

// TestP9_1_AllBytes: each byte, and each two, where a token may stand.
func TestP9_1_AllBytes(t *testing.T) {
	for a := range 256 {
		expectLikeWords(t, "R: ><\nelse <>\n"+string([]byte{byte(a)}))
		expectLikeWords(t, "R: '"+string([]byte{byte(a)})+"' ><\nelse <>")
		expectLikeWords(t, fmt.Sprintf("R: \\u{%s} ><\nelse <>", []byte{byte(a)}))
		for b := range 256 {
			expectLikeWords(t, "R: "+string([]byte{byte(a), byte(b)})+" ><\nelse <>")
		}
	}
}
