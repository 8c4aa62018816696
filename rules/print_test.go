package rules_test

import (
	"fmt"
	"strconv"
	"strings"
	"testing"

	"caesura/api"
	"caesura/rules"
)

func expectPrint(t *testing.T, promise string, r api.Rules, want string) {
	t.Helper()
	got, err := rules.Print(r)
	if err != nil || got != want {
		t.Errorf("%s: Print(%.300s) = %.200q, %v, want %.200q", promise, shown(r), got, err, want)
		return
	}
	again, line, err := rules.Parse(got)
	if err != nil || line != 0 || shown(again) != shown(r) {
		t.Errorf("P9.4: Parse(%.200q) = %.300s, %d, %v, want %.300s", got, shown(again), line, err, shown(r))
	}
}

// expectReprint reads lines and writes them.
func expectReprint(t *testing.T, promise string, lines []string, want ...string) {
	t.Helper()
	expectPrint(t, promise, parsed(t, text(lines...)), text(append(want, "")...))
}

func TestP9_3_Examples(t *testing.T) {
	expectReprint(t, "P9.3", []string{"let P = [Sep CR LF]", "A: CR >< LF", "B: P <>", "suppress [Sp ' ']", "C: ^ (X Y | Z)* >< [^]+ $", "else ><"},
		"A: CR >< LF", "B: [CR LF Sep] <>", `suppress [Sp \u{20}]`, "C: ^ (X Y | Z)* >< [^]+ $", "else ><")
	expectReprint(t, "P9.3", []string{"A: [^ 'b' C 'a' B C] ><", "else <>"}, "A: [^B C 'a'..'b'] ><", "else <>")
	expectReprint(t, "P9.3", []string{"else <>"}, "else <>")
	expectReprint(t, "P9.3", []string{"skip Ext", "A: B (C | D)* >< [^]+ $", "else ><"}, "A: B Ext* (C Ext* | D Ext*)* >< ([^] Ext*)+ $", "else ><")
}

func TestP9_3_Lines(t *testing.T) {
	a, b := class("A"), class("B")
	for want, r := range map[string]api.Rule{
		"X: ><": rule("X", empty(), false, empty()), "X: <>": rule("X", empty(), true, empty()), "X: A ><": rule("X", a, false, empty()), "X: <> B": rule("X", empty(), true, b), "X: A >< B": rule("X", a, false, b),
		"X: ^ ><": {Name: "X", Left: empty(), Right: empty(), Start: true}, "X: >< $": {Name: "X", Left: empty(), Right: empty(), End: true}, "X: ^ A <> B $": {Name: "X", Left: a, Right: b, Start: true, End: true, Break: true}, "X: ^ <> $": {Name: "X", Left: empty(), Right: empty(), Start: true, End: true, Break: true},
		"X: ^ A | B >< A B | () $": {Name: "X", Left: alt(a, b), Right: alt(seq(a, b), empty()), Start: true, End: true},
		"else: >< A":               rule("else", empty(), false, a), "suppress: A ><": rule("suppress", a, false, empty()),
	} {
		expectPrint(t, "P9.3", made(true, r), want+"\nelse <>\n")
		expectPrint(t, "P9.3", made(false, r), want+"\nelse ><\n")
	}
}

func TestP9_3_Suppress(t *testing.T) {
	r := made(true, rule("A", empty(), false, empty()), rule("B", empty(), true, empty()))
	expectPrint(t, "P9.3", r, "A: ><\nB: <>\nelse <>\n")
	for at, want := range []string{"suppress\nA: ><\nB: <>\nelse <>\n", "A: ><\nsuppress\nB: <>\nelse <>\n", "A: ><\nB: <>\nsuppress\nelse <>\n"} {
		r.Suppress, r.Trail = at, api.Set{}
		expectPrint(t, "P9.3", r, want)
		r.Trail = api.Set{Not: true}
		expectPrint(t, "P9.3", r, strings.Replace(want, "suppress", "suppress [^]", 1))
		r.Trail = api.Set{Names: []string{"Sp"}}
		expectPrint(t, "P9.3", r, strings.Replace(want, "suppress", "suppress Sp", 1))
		r.Trail = api.Set{Points: []api.Range{{Low: ' ', High: '!'}}}
		expectPrint(t, "P9.3", r, strings.Replace(want, "suppress", `suppress \u{20}..'!'`, 1))
	}
	expectPrint(t, "P9.3", api.Rules{}, "suppress\nelse ><\n")
}

func TestP9_3_Texts(t *testing.T) {
	a, b, c, d := class("A"), class("B"), class("C"), class("D")
	for want, e := range map[string]api.Expr{
		"A": a, "A B": seq(a, b), "A | B": alt(a, b), "A B | C D": alt(seq(a, b), seq(c, d)), "(A | B) C": seq(alt(a, b), c), "A (B | C) D": seq(a, alt(b, c), d), "A | ()": alt(a, empty()), "() | ()": alt(empty(), empty()), "() | A | ()": alt(empty(), a, empty()), "A (() | B)": seq(a, alt(empty(), b)),
		"A*": star(a), "A+": plus(a), "A?": opt(a), "()*": star(empty()), "()+": plus(empty()), "()?": opt(empty()), "(A B)*": star(seq(a, b)), "(A | B)+": plus(alt(a, b)), "A**": star(star(a)), "A*+?": opt(plus(star(a))), "(A B)*+": plus(star(seq(a, b))), "(A* B)?": opt(seq(star(a), b)), "A* B": seq(star(a), b), "A | B*": alt(a, star(b)), "A ()* B": seq(a, star(empty()), b), "((A | B) C)*": star(seq(alt(a, b), c)), "(A B | C)* D": seq(star(alt(seq(a, b), c)), d), "(A | (B | C) D)?": opt(alt(a, seq(alt(b, c), d))), "(() | A)*": star(alt(empty(), a)),
		"[]": of(api.Set{}), "[^]": of(api.Set{Not: true}), "[^A]": of(api.Set{Not: true, Names: []string{"A"}}), "[A B]": class("A", "B"), "[^A B]": of(api.Set{Not: true, Names: []string{"A", "B"}}), "Other": class("Other"), "[A 'a']": of(api.Set{Names: []string{"A"}, Points: []api.Range{{Low: 'a', High: 'a'}}}), "[A B 'a'..'b' 'd']": of(api.Set{Names: []string{"A", "B"}, Points: []api.Range{{Low: 'a', High: 'b'}, {Low: 'd', High: 'd'}}}), "['a' 'c']": span('a', 'a', 'c', 'c'), "[^'a']": of(api.Set{Not: true, Points: []api.Range{{Low: 'a', High: 'a'}}}),
		"'a'": span('a', 'a'), "'a'..'b'": span('a', 'b'), "'a'..'z'*": star(span('a', 'z')), `\u{0}`: span(0, 0), `\u{0}..\u{10ffff}`: span(0, api.MaxPoint), `\u{10ffff}`: span(api.MaxPoint, api.MaxPoint), `\u{20}`: span(0x20, 0x20), "'!'": span(0x21, 0x21), `\u{27}`: span(0x27, 0x27), "'&'..'('": span(0x26, 0x28), "'#'": span('#', '#'), `'\'`: span('\\', '\\'), "'~'": span(0x7e, 0x7e), `\u{7f}`: span(0x7f, 0x7f), `\u{e9}`: span(0xe9, 0xe9), `\u{abcd}..\u{fedc}`: span(0xabcd, 0xfedc), `\u{d800}..\u{dfff}`: span(0xd800, 0xdfff), `\u{1f600}`: span(0x1f600, 0x1f600), `\u{9}..\u{a}`: span(9, 10),
	} {
		expectPrint(t, "P9.3", made(true, rule("X", e, false, empty())), "X: "+want+" ><\nelse <>\n")
		expectPrint(t, "P9.3", made(true, rule("X", empty(), false, e)), "X: >< "+want+"\nelse <>\n")
	}
	for p := range 0x180 {
		want := `\u{` + strconv.FormatInt(int64(p), 16) + "}"
		if p >= 0x21 && p <= 0x7e && p != 0x27 {
			want = fmt.Sprintf("'%c'", p)
		}
		expectPrint(t, "P9.3", made(true, rule("X", span(p, p), false, empty())), "X: "+want+" ><\nelse <>\n")
	}
}

func TestP9_3_MaxNest(t *testing.T) {
	a, b := class("A"), class("B")
	rising := func(n int) api.Expr { // (..((A B)* B)* ..)*
		e := a
		for range n {
			e = star(seq(e, b))
		}
		return e
	}
	falling := func(n int) api.Expr { // A (B | A (B | ..))
		e := seq(a, b)
		for range n {
			e = seq(a, alt(b, e))
		}
		return e
	}
	for _, c := range []struct {
		e    api.Expr
		fine bool
	}{
		{rising(32), true}, {rising(33), false}, {falling(32), true}, {falling(33), false},
		{star(alt(b, falling(31))), true}, {star(alt(b, falling(32))), false},
		{alt(rising(32), rising(32), empty()), true}, {alt(a, rising(33)), false}, {seq(rising(32), rising(32)), true},
		{rising(40), false}, {falling(60), false}, {star(alt(empty(), b)), true},
	} {
		for _, r := range []api.Rules{made(true, rule("X", c.e, false, empty())), made(true, rule("W", a, false, a), rule("X", b, false, c.e))} {
			got, err := rules.Print(r)
			if c.fine {
				expectPrint(t, "P9.4: as deep as may be", r, got)
			} else if err != api.ErrMany || got != "" || rules.Check(r) != nil {
				t.Errorf("P9.3: too deep: %.100q, %v", got, err)
			}
		}
	}
}

// TestP9_3_EmptyNest: the brackets of an empty word count too.
func TestP9_3_EmptyNest(t *testing.T) {
	for _, inner := range []api.Expr{alt(class("B"), empty()), star(empty())} {
		e := seq(class("A"), inner)
		for deep := 2; deep < 40; deep++ {
			wanted := deep <= api.MaxNest
			if inner.Kind == api.ExprStar {
				wanted = deep-1 <= api.MaxNest
			}
			got, err := rules.Print(made(true, rule("X", e, false, empty())))
			if fine := err == nil; fine != wanted || !fine && (err != api.ErrMany || got != "") {
				t.Errorf("P9.3: %d deep: %.100q, %v", deep, got, err)
			}
			e = seq(class("A"), alt(class("B"), e))
		}
	}
}

// ofSize is rules whose text has just so many bytes, about as many as may be: great sets, and a row of names that fills up.
func ofSize(size int) api.Rules {
	r := made(true)
	for i := range 7 {
		r.Rules = append(r.Rules, rule(fmt.Sprintf("R%d", i), of(many(16000)), false, empty()))
	}
	great, _ := rules.Print(r)
	row := seq()
	left := size - len(great) - len("Z:  ><\n")
	for ; left > 65; left -= 33 {
		row.Parts = append(row.Parts, class(strings.Repeat("m", 32)))
	}
	row.Parts = append(row.Parts, class(strings.Repeat("m", left/2)), class(strings.Repeat("m", left-left/2-1)))
	r.Rules = append(r.Rules, rule("Z", row, false, empty()))
	return r
}

func TestP9_3_MaxFile(t *testing.T) {
	most := ofSize(api.MaxFile)
	got, err := rules.Print(most)
	if err != nil || len(got) != api.MaxFile {
		t.Fatalf("P9.3: as long as may be: %d bytes, %v", len(got), err)
	}
	expectPrint(t, "P9.4: as long as may be", most, got)
	longer := ofSize(api.MaxFile + 1)
	if got, err := rules.Print(longer); err != api.ErrMany || got != "" || rules.Check(longer) != nil {
		t.Errorf("P9.3: one byte too many: %d bytes, %v", len(got), err)
	}
	far := made(true)
	for i := range api.MaxRules {
		far.Rules = append(far.Rules, rule(fmt.Sprintf("R%d", i), of(many(api.MaxSpans)), false, of(many(api.MaxSpans))))
	}
	if got, err := rules.Print(far); err != api.ErrMany || got != "" {
		t.Errorf("P9.3: far too long: %d bytes, %v", len(got), err)
	}
}

// textAfterWords is the text of an expression, written down after the chapter.
func textAfterWords(e api.Expr) string {
	join := func(between string, bracketed func(api.Expr) bool) string {
		var list []string
		for _, part := range e.Parts {
			switch {
			case part.Kind == api.ExprEmpty:
				list = append(list, "()")
			case bracketed(part):
				list = append(list, "("+textAfterWords(part)+")")
			default:
				list = append(list, textAfterWords(part))
			}
		}
		return strings.Join(list, between)
	}
	isAlt := func(part api.Expr) bool { return part.Kind == api.ExprAlt }
	isRow := func(part api.Expr) bool { return part.Kind == api.ExprAlt || part.Kind == api.ExprSeq }
	switch e.Kind {
	case api.ExprAlt:
		return join(" | ", func(api.Expr) bool { return false })
	case api.ExprSeq:
		return join(" ", isAlt)
	case api.ExprStar:
		return join("", isRow) + "*"
	case api.ExprPlus:
		return join("", isRow) + "+"
	case api.ExprOpt:
		return join("", isRow) + "?"
	case api.ExprEmpty:
		return ""
	}
	return setAfterWords(e.Set)
}

func setAfterWords(s api.Set) string {
	point := func(p int) string {
		if quoted := fmt.Sprintf("'%c'", p); p > 0x20 && p < 0x7f && quoted != "'''" {
			return quoted
		}
		return fmt.Sprintf("\\u{%x}", p)
	}
	items := append([]string(nil), s.Names...)
	for _, r := range s.Points {
		item := point(r.Low)
		if r.High != r.Low {
			item += ".." + point(r.High)
		}
		items = append(items, item)
	}
	inner := strings.Join(items, " ")
	switch {
	case s.Not:
		return "[^" + inner + "]"
	case len(items) == 1:
		return inner
	}
	return "[" + inner + "]"
}

// printAfterWords is Print of rules that may be and are small.
func printAfterWords(r api.Rules) string {
	mark := map[bool]string{true: "<>", false: "><"}
	var lines []string
	for _, x := range r.Rules {
		line := x.Name + ":"
		for _, word := range []struct {
			there bool
			text  string
		}{{x.Start, "^"}, {x.Left.Kind != api.ExprEmpty, textAfterWords(x.Left)}, {true, mark[x.Break]}, {x.Right.Kind != api.ExprEmpty, textAfterWords(x.Right)}, {x.End, "$"}} {
			if word.there {
				line += " " + word.text
			}
		}
		lines = append(lines, line)
	}
	if r.Suppress >= 0 {
		line := strings.TrimSuffix("suppress "+setAfterWords(r.Trail), " []")
		lines = append(lines[:r.Suppress], append([]string{line}, lines[r.Suppress:]...)...)
	}
	return strings.Join(append(lines, "else "+mark[r.Else]), "\n") + "\n"
}

func TestP9_3_P9_4_Samples(t *testing.T) {
	d := newDrawn(93)
	for range 5000 {
		r := d.rules(4)
		expectPrint(t, "P9.3", r, printAfterWords(r))
		if t.Failed() {
			break
		}
	}
}

// TestP9_4_Parsed: what was read is written and read again, to the same.
func TestP9_4_Parsed(t *testing.T) {
	d := newDrawn(94)
	fine := 0
	for range 10000 {
		file := d.file()
		r, line, err := rules.Parse(file)
		if err != nil {
			continue
		}
		fine++
		if line != 0 || rules.Check(r) != nil {
			t.Fatalf("P9.4: %q: %d, %v", file, line, rules.Check(r))
		}
		expectPrint(t, "P9.4", r, printAfterWords(r))
	}
	if fine < 2000 {
		t.Errorf("P9.4: only %d files were read", fine)
	}
}
