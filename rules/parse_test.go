package rules_test

import (
	"fmt"
	"strings"
	"testing"
	"time"

	"caesura/api"
	"caesura/expr"
	"caesura/rules"
)

func expect(t *testing.T, promise, text string, want api.Rules) {
	t.Helper()
	r, line, err := rules.Parse(text)
	if err != nil || line != 0 || shown(r) != shown(want) {
		t.Errorf("%s: Parse(%.100q) = %.300s, %d, %v, want %.300s", promise, text, shown(r), line, err, shown(want))
	}
	if err := rules.Check(r); err != nil {
		t.Errorf("P9.4: Check of Parse(%.100q) = %v", text, err)
	}
}

func expectFault(t *testing.T, promise, text string, wantLine int, want error) {
	t.Helper()
	r, line, err := rules.Parse(text)
	if err != want || line != wantLine || shown(r) != shown(api.Rules{}) {
		t.Errorf("%s: Parse(%.100q) = %.300s, %d, %v, want %d, %v", promise, text, shown(r), line, err, wantLine, want)
	}
}

// expectLeft reads a rule with nothing but this left side, ahead of it the lines that are handed in.
func expectLeft(t *testing.T, promise, left string, want api.Expr, ahead ...string) {
	t.Helper()
	head := text(append(ahead, "")...)
	expect(t, promise, head+"A: "+left+" ><\nelse <>", made(true, rule("A", want, false, empty())))
	expect(t, promise+" (on the right)", head+"A:<>"+left+"\nelse ><", made(false, rule("A", empty(), true, want)))
}

func TestP9_1_Examples(t *testing.T) {
	expect(t, "P9.1", "else <>", made(true))
	expect(t, "P9.1", "else ><", made(false))
	expectFault(t, "P9.1", "", 0, api.ErrShort)
	expectFault(t, "P9.1", "else", 1, api.ErrText)
	expectFault(t, "P9.1", "else <>\nA: ><", 2, api.ErrText)
	head := []string{"let P = [Sep CR LF]", "A: CR >< LF", "B: P <>", "suppress [Sp ' ']"}
	expectFault(t, "P9.1", text(append(head, "C: ^ (X Y | Z)* >< . ")...), 5, api.ErrText)
	want := made(false,
		rule("A", class("CR"), false, class("LF")),
		rule("B", class("CR", "LF", "Sep"), true, empty()),
		rule("C", star(alt(seq(class("X"), class("Y")), class("Z"))), false, plus(of(api.Set{Not: true}))))
	want.Rules[2].Start, want.Rules[2].End = true, true
	want.Suppress, want.Trail = 2, api.Set{Names: []string{"Sp"}, Points: []api.Range{{Low: 0x20, High: 0x20}}}
	expect(t, "P9.1", text(append(head, "C: ^ (X Y | Z)* >< [^]+ $", "else ><")...), want)
	a, b, c, d := class("A"), class("B"), class("C"), class("D")
	expectLeft(t, "P9.1", "(B) () (C D)", seq(b, c, d))
	expectLeft(t, "P9.1", "B | (C | ())", alt(b, c, empty()))
	expectLeft(t, "P9.1", "[^ 'b' C 'a' B C]", of(api.Set{Not: true, Names: []string{"B", "C"}, Points: []api.Range{{Low: 0x61, High: 0x62}}}))
	expectFault(t, "P9.1", text("let N = [^ A]", "B: [N C] ><"), 2, api.ErrArg)
	expectLeft(t, "P9.1", "N*", star(of(api.Set{Not: true, Names: []string{"A"}})), "let N = [^ A]")
	expectFault(t, "P9.1", "A: 'b'..'a' ><", 1, api.ErrOrder)
	expectFault(t, "P9.1", text("A: B ><", "let B = C"), 2, api.ErrOrder)
	expectFault(t, "P9.1", "let B = B", 1, api.ErrOrder)
	expectFault(t, "P9.1", text("A: ><", "A: <>"), 2, api.ErrTwice)
	expectFault(t, "P9.1", text("skip A", "skip A"), 2, api.ErrTwice)
	expect(t, "P9.1", text("let: let >< let", "else: ><", "else <>"), made(true, rule("let", class("let"), false, class("let")), rule("else", empty(), false, empty())))
	expectLeft(t, "P9.1", "A", a)
}

func TestP9_1_Shapes(t *testing.T) {
	a, b, c, d := class("A"), class("B"), class("C"), class("D")
	for left, want := range map[string]api.Expr{
		"": empty(), "()": empty(), "(())": empty(), "() ()": empty(), "(()())()": empty(), "|": alt(empty(), empty()), "||": alt(empty(), empty(), empty()), "()|": alt(empty(), empty()),
		"A": a, "(A)": a, "((A))": a, "()A()": a, "(()(A))": a, "A B": seq(a, b), "(A B)": seq(a, b), "(A)B": seq(a, b), "A(B C)D": seq(a, b, c, d), "(A B)(C D)": seq(a, b, c, d), "(A(B(C D)))": seq(a, b, c, d), "(((A)B)C)D": seq(a, b, c, d),
		"A|B": alt(a, b), "(A|B)": alt(a, b), "(A|B)|C": alt(a, b, c), "A|(B|C)": alt(a, b, c), "A|((B|(C))|D)": alt(a, b, c, d), "(A|B)|(C|D)": alt(a, b, c, d), "|A": alt(empty(), a), "A|": alt(a, empty()), "A||B": alt(a, empty(), b), "(|)|A": alt(empty(), empty(), a), "()|A": alt(empty(), a),
		"A B|C D": alt(seq(a, b), seq(c, d)), "A(B|C)D": seq(a, alt(b, c), d), "(A B|C)": alt(seq(a, b), c), "(A|B)()": alt(a, b), "(A|B)()|C": alt(a, b, c), "(A|B)(C|D)": seq(alt(a, b), alt(c, d)), "A(|)": seq(a, alt(empty(), empty())), "(A|)B": seq(alt(a, empty()), b),
		"A*": star(a), "A+": plus(a), "A?": opt(a), "A*+?": opt(plus(star(a))), "A?+*": star(plus(opt(a))), "A**": star(star(a)), "A B*": seq(a, star(b)), "(A B)*": star(seq(a, b)), "(A|B)+": plus(alt(a, b)), "A|B?": alt(a, opt(b)), "(A*)*": star(star(a)), "(A*)": star(a), "()*": star(empty()), "()?": opt(empty()), "(())+": plus(empty()), "(|)*": star(alt(empty(), empty())), "A ()* B": seq(a, star(empty()), b), "((A B))*": star(seq(a, b)), "(A B)* (C D)": seq(star(seq(a, b)), c, d), "A * + ?": opt(plus(star(a))),
		"[A B][B A][^A B][AB]AB[ABA]A": seq(class("A", "B"), class("A", "B"), of(api.Set{Not: true, Names: []string{"A", "B"}}), class("AB"), class("AB"), class("ABA"), a), "['a''b']'a''b'['a'..'b' 'd']'a'['a''d']": seq(span('a', 'b'), span('a', 'a'), span('b', 'b'), span('a', 'b', 'd', 'd'), span('a', 'a'), span('a', 'a', 'd', 'd')),
		"'a'*": star(span('a', 'a')), "'a'..'c'+": plus(span('a', 'c')), "[A]?": opt(a), "[A B]*": star(class("A", "B")), "A'b'[C]D": seq(a, span('b', 'b'), c, d), "'a''b'": seq(span('a', 'a'), span('b', 'b')),
	} {
		expectLeft(t, "P9.1", left, want)
		expectLeft(t, "P9.1: spread out", " \t"+strings.ReplaceAll(strings.ReplaceAll(strings.ReplaceAll(left, "(", " ( "), ")", "\t)\t"), "|", "\t| "), want)
	}
}

func TestP9_1_Sets(t *testing.T) {
	at := func(points ...api.Range) api.Set { return api.Set{Points: points} }
	for left, want := range map[string]api.Set{
		"A": {Names: []string{"A"}}, "[]": {}, "[ \t]": {}, "[^]": {Not: true}, "[ ^ ]": {Not: true}, "[A]": {Names: []string{"A"}}, "[^A]": {Not: true, Names: []string{"A"}}, "Other": {Names: []string{"Other"}}, "[Other A]": {Names: []string{"A", "Other"}},
		"[B A B a A]": {Names: []string{"A", "B", "a"}}, "[A1 A_ A AA]": {Names: []string{"A", "A1", "AA", "A_"}}, "let": {Names: []string{"let"}}, "[skip else suppress]": {Names: []string{"else", "skip", "suppress"}}, "a_9": {Names: []string{"a_9"}},
		"'a'": at(api.Range{Low: 'a', High: 'a'}), "' '": at(api.Range{Low: ' ', High: ' '}), "'''": at(api.Range{Low: '\'', High: '\''}), "'#'": at(api.Range{Low: '#', High: '#'}), `'\'`: at(api.Range{Low: '\\', High: '\\'}), "'~'": at(api.Range{Low: '~', High: '~'}), "'('": at(api.Range{Low: '(', High: '('}), "'['": at(api.Range{Low: '[', High: '['}), "']'": at(api.Range{Low: ']', High: ']'}),
		"'\u0080'": at(api.Range{Low: 0x80, High: 0x80}), "'\u009f'": at(api.Range{Low: 0x9f, High: 0x9f}), "'\u00e9'": at(api.Range{Low: 0xe9, High: 0xe9}), "'\u2028'": at(api.Range{Low: 0x2028, High: 0x2028}), "'\ufffd'": at(api.Range{Low: 0xfffd, High: 0xfffd}), "'\ufeff'": at(api.Range{Low: 0xfeff, High: 0xfeff}), "'\U0010ffff'": at(api.Range{Low: 0x10ffff, High: 0x10ffff}), "'\U0001f600'": at(api.Range{Low: 0x1f600, High: 0x1f600}),
		`\u{0}`: at(api.Range{}), `\u{a}`: at(api.Range{Low: 10, High: 10}), `\u{7f}`: at(api.Range{Low: 127, High: 127}), `\u{000041}`: at(api.Range{Low: 'A', High: 'A'}), `\u{aBcD}`: at(api.Range{Low: 0xabcd, High: 0xabcd}), `\u{d800}`: at(api.Range{Low: 0xd800, High: 0xd800}), `\u{DFFF}`: at(api.Range{Low: 0xdfff, High: 0xdfff}), `\u{10ffff}`: at(api.Range{Low: 0x10ffff, High: 0x10ffff}), `\u{10FFFF}`: at(api.Range{Low: 0x10ffff, High: 0x10ffff}),
		"'a'..'c'": at(api.Range{Low: 'a', High: 'c'}), "'a' .. 'c'": at(api.Range{Low: 'a', High: 'c'}), "'a'..'a'": at(api.Range{Low: 'a', High: 'a'}), `\u{0}..\u{10ffff}`: at(api.Range{Low: 0, High: 0x10ffff}), `'a'..\u{7a}`: at(api.Range{Low: 'a', High: 'z'}), "'.'..'.'": at(api.Range{Low: '.', High: '.'}), "'''..'''": at(api.Range{Low: '\'', High: '\''}),
		"['b''a']": at(api.Range{Low: 'a', High: 'b'}), "['a' 'c']": at(api.Range{Low: 'a', High: 'a'}, api.Range{Low: 'c', High: 'c'}), "['x'..'z' 'a'..'y' 'b']": at(api.Range{Low: 'a', High: 'z'}), "['a' 'a']": at(api.Range{Low: 'a', High: 'a'}), "['c' B 'a'..'b' A]": {Names: []string{"A", "B"}, Points: []api.Range{{Low: 'a', High: 'c'}}},
		"['a'..'b''c'..'d']": at(api.Range{Low: 'a', High: 'd'}), "[^'#'']']": {Not: true, Points: []api.Range{{Low: '#', High: '#'}, {Low: ']', High: ']'}}},
	} {
		expectLeft(t, "P9.1", left, of(want))
		suppressed := api.Rules{Trail: want, Else: true}
		expect(t, "P9.1: a trail", "suppress "+left+"\nelse <>", suppressed)
		expect(t, "P9.1: a let's set", "let x_0 = "+left+"\nsuppress x_0\nelse <>", suppressed)
		expect(t, "P9.1: what is skipped", "skip "+left+"\nA: >< B\nelse <>", made(true, rule("A", empty(), false, seq(class("B"), star(of(want))))))
	}
}

func TestP9_1_Lets(t *testing.T) {
	head := []string{"let P = 'a'..'c'", "let Q = [B 'e' C]", "let N = [^ 'x' A]", "let M = N", "let R = [P Q D 'd']", "let let = E", "let E2 = let"}
	not := of(api.Set{Not: true, Names: []string{"A"}, Points: []api.Range{{Low: 'x', High: 'x'}}})
	for left, want := range map[string]api.Expr{
		"P": span('a', 'c'), "[P]": span('a', 'c'), "[^P]": of(api.Set{Not: true, Points: []api.Range{{Low: 'a', High: 'c'}}}), "Q": of(api.Set{Names: []string{"B", "C"}, Points: []api.Range{{Low: 'e', High: 'e'}}}),
		"N": not, "M": not, "(M)*": star(not), "N N": seq(not, not),
		"R": of(api.Set{Names: []string{"B", "C", "D"}, Points: []api.Range{{Low: 'a', High: 'e'}}}), "[R 'f' A P Q R]": of(api.Set{Names: []string{"A", "B", "C", "D"}, Points: []api.Range{{Low: 'a', High: 'f'}}}),
		"let": class("E"), "E2": class("E"), "[let E2]": class("E"), "p": class("p"), "PP": class("PP"), "[P p]": of(api.Set{Names: []string{"p"}, Points: []api.Range{{Low: 'a', High: 'c'}}}),
	} {
		expectLeft(t, "P9.1", left, want, head...)
	}
	expectLeft(t, "P9.1: a let stays as it is", "[A U] [U A 'a'] U", seq(class("A", "B", "C", "D"), of(api.Set{Names: []string{"A", "B", "C", "D"}, Points: []api.Range{{Low: 'a', High: 'a'}}}), class("B", "C", "D")), "let U = [B C D]", "let V = [A U]")
	for _, set := range []string{"[N]", "[^N]", "[M]", "[A N]", "[N 'x']", "['x' M 'y']"} {
		for _, line := range []string{"let X = " + set, "skip " + set, "suppress " + set, "A: " + set + " ><", "A: >< " + set, "A: A B (C | D " + set + "*)+ ><"} {
			expectFault(t, "P9.1: a let stands where it must not", text(append(head, line)...), 8, api.ErrArg)
		}
	}
	expect(t, "P9.1: a let's name may be a class's in no set", text("let A = B", "let C = A", "else <>"), made(true))
	expect(t, "P9.1: a let of Other", text("let Other = B", "A: Other >< [Other C]", "else <>"), made(true, rule("A", class("B"), false, class("B", "C"))))
	expect(t, "P9.1: a rule's name is no class", text("A: >< B", "let A = C", "D: A ><", "else <>"), made(true, rule("A", empty(), false, class("B")), rule("D", class("C"), false, empty())))
	expect(t, "P9.1: a let and a rule of one name", text("let A = C", "A: A ><", "else <>"), made(true, rule("A", class("C"), false, empty())))
	for _, line := range []string{"A: B ><", "A: >< B", "A: [C B] ><", "A: (C | (D [^ 'x' B]*)) ><", "skip B", "suppress [B]", "let D = B", "let D = [^ E B]"} {
		expectFault(t, "P9.1: a let's name was a class", text(line, "", "let B = C"), 3, api.ErrOrder)
		expect(t, "P9.1: another name", text(line, "let b = C", "else <>"), parsed(t, text(line, "else <>")))
	}
	for _, line := range []string{"let B = B", "let B = [B]", "let B = [^ A 'x' B]"} {
		expectFault(t, "P9.1: a let's name is a class on its line", line, 1, api.ErrOrder)
		expectFault(t, "P9.1: a let's name is a let on its line", text("let B = C", line), 2, api.ErrTwice)
	}
}

// parsed is what Parse makes of a text that it reads.
func parsed(t *testing.T, text string) api.Rules {
	t.Helper()
	r, line, err := rules.Parse(text)
	if err != nil || line != 0 {
		t.Fatalf("P9.1: Parse(%.100q): %d, %v", text, line, err)
	}
	return r
}

func TestP9_1_Skip(t *testing.T) {
	a, b, s := class("A"), class("B"), star(class("S"))
	expect(t, "P9.1: from the skip on", text("A: A B >< A", "skip S", "B: A B | () >< A* $", "suppress A", "C: ^ ><", "else <>"), api.Rules{
		Rules: []api.Rule{
			rule("A", seq(a, b), false, a),
			{Name: "B", Left: alt(seq(a, s, b, s), empty()), Right: star(seq(a, s)), End: true},
			{Name: "C", Left: empty(), Right: empty(), Start: true},
		},
		Suppress: 2, Trail: api.Set{Names: []string{"A"}}, Else: true,
	})
	expect(t, "P9.1: a let in the skip, a let behind it", text("let X = [^ S]", "skip X", "let Y = A", "A: Y ><", "else <>"), made(true, rule("A", seq(a, star(of(api.Set{Not: true, Names: []string{"S"}}))), false, empty())))
	d := newDrawn(915)
	for range 500 {
		r := d.rules(3)
		r.Suppress, r.Trail = -1, api.Set{}
		plain, err := rules.Print(r)
		if err != nil {
			t.Fatal(err)
		}
		skip := d.set()
		for i, rule := range r.Rules {
			r.Rules[i].Left, _ = expr.Skip(rule.Left, skip)
			r.Rules[i].Right, _ = expr.Skip(rule.Right, skip)
		}
		suppress, err := rules.Print(api.Rules{Trail: skip})
		if err != nil {
			t.Fatal(err)
		}
		line, _, _ := strings.Cut(suppress, "\n")
		if line == "suppress" {
			line += " []"
		}
		expect(t, "P9.1: what expr.Skip says", strings.Replace(line, "suppress", "skip", 1)+"\n"+plain, r)
	}
}

func TestP9_1_Suppress(t *testing.T) {
	r := parsed(t, text("A: ><", "B: ><", "else ><"))
	for at, lines := range [][]string{{"suppress", "A: ><", "B: ><", "else ><"}, {"A: ><", "suppress", "B: ><", "else ><"}, {"A: ><", "B: ><", "suppress", "else ><"}} {
		r.Suppress = at
		expect(t, "P9.1", text(lines...), r)
	}
	expect(t, "P9.1: a trail that holds nothing", "suppress []\nelse ><", api.Rules{})
	expect(t, "P9.1: a trail that is a let", "let X = [^ B 'a']\nsuppress X\nelse ><", api.Rules{Trail: api.Set{Not: true, Names: []string{"B"}, Points: []api.Range{{Low: 'a', High: 'a'}}}})
}

func TestP9_1_Lines(t *testing.T) {
	want := made(true, rule("A", class("B"), false, class("C")))
	for _, file := range []string{
		"A:B><C\nelse<>", "A : B >< C\nelse <>\n", "\tA\t:\tB\t><\tC\t\n\telse\t<>\t\n", "A: B >< C\r\nelse <>\r\n", "\n\n  \n\t\nA: B >< C\n\n\nelse <>\n\n \n", "\r\n \r\nA: B >< C\r\nelse <>\r\n\r\n",
		"# x\nA: B >< C # y\nelse <> # z", "#\n#\xff\x00\r'\nA: B >< C#\nelse <>#\n#", " \t# ((((((((((((((((((((((((((((((((((((((((\nA: B >< C\nelse <>", "A: B >< C # \\u{ 'x\r\nelse <>\n# \r\n#\r", "A: B >< C\nelse <>\n# behind it\n \n",
		"A:(B)><[C]\nelse<>#", "let x=B\nA:x><C\nelse<>", "A: B >< C\nelse <>\r\n# \r",
	} {
		expect(t, "P9.1", file, want)
	}
	for file, line := range map[string]int{
		"\n\nx": 3, "\r\n\r\nx": 3, "# x\n\nA: ><\n\nelse <>\nx": 6, "else <>\r": 1, "\r": 1, "A: ><\r\r\nelse <>": 1, "A:\r><\nelse <>": 1, "else\n<>": 1, "A: B\n>< C\nelse <>": 1, "A: ><\vB": 1, "A: ><\u00a0B": 1, "\ufeffelse <>": 1, "else <>\x00": 1, "A: >< B\\ ": 1, "A: ><\nelse <>\n\nelse <>": 4, "else <>\nlet A = B": 2, "else <>\nsuppress": 2, "else <>\nskip A": 2, "else <>\n.": 2,
	} {
		expectFault(t, "P9.1", file, line, api.ErrText)
		expectFault(t, "P9.1", file+" \nelse", line, api.ErrText)
	}
	for _, file := range []string{"", "\n", "# else <>", "A: ><", "let A = B", "skip A\nsuppress", "A: ><\n\n#", "else: ><"} {
		expectFault(t, "P9.1: no else", file, 0, api.ErrShort)
	}
}

// noLines are lines that are none, or cannot be cut into tokens.
func noLines() []string {
	list := []string{
		".", ",", "1", "9a: ><", "_: ><", "-", "&", ";", "\\", "\\u", "A", "A ><", "A B: ><", ": ><", "A", "A:", "A: B", "A:: ><", "A: : ><", "A:><:", "'a': ><", "[A]: ><", "(A): ><", "><", "<>", "A= B: ><", "A: > <", "A: < >", "A: ><>", "A: <><", "A: ><<>", "A: >< <>", "A: >< ><", "A: <> B ><", "A: >> B", "A: > B", "A: < B", "A: = ><", "A: B = C ><",
		"A: B ^ ><", "A: ^^ ><", "A: ^ ^ B ><", "A: >< ^", "A: >< ^ B", "A: >< B ^", "A: $ ><", "A: B $ ><", "A: >< $ B", "A: >< $$", "A: >< B $ $", "A: (^ B) ><", "A: >< (B $)", "A: B | ^ C ><", "A: >< B $ | C", "A: ^ B $ ><",
		"A: (B ><", "A: B) ><", "A: ) ><", "A: ( ><", "A: (B >< )", "A: )B( ><", "A: (B | ><", "A: (B (C) ><", "A: (B)) ><", "A: >< (", "A: >< )", "A: (B >< C)", "A: [B ><", "A: B] ><", "A: [ ><", "A: ] ><", "A: [B >< C]", "A: [[B]] ><", "A: [B [C]] ><", "A: [(B)] ><", "A: [B | C] ><", "A: [B*] ><", "A: [^^ B] ><", "A: [B ^] ><", "A: [B ^ C] ><", "A: [B:] ><", "A: [B = C] ><", "A: [B $] ><", "A: [<>] ><", "A: ([)] ><",
		"A: * ><", "A: + B ><", "A: ? ><", "A: (*) ><", "A: B | * ><", "A: ^ * ><", "A: >< *", "A: >< B $ *", "A: (*B) ><",
		"A: 'a'.. ><", "A: ..'a' ><", "A: B..C ><", "A: B..'c' ><", "A: 'b'..C ><", "A: 'a'..'b'..'c' ><", "A: ['a'..'b'..'c'] ><", "A: ['a'..] ><", "A: [..'a'] ><", "A: ['a'..B] ><", "A: [B..'c'] ><", "A: 'a' . . 'b' ><", "A: 'a'...'b' ><", "A: 'a'....'b' ><", "A: 'a'.'b' ><", "A: 'a'..('b') ><", "A: ['a'..['b']] ><", "A: 'a'..*'b' ><", "A: .. ><",
		"A: ' ><", "A: '' ><", "A: 'ab' ><", "A: 'a ><", "A: a' ><", "A: '''' ><", "A: '''a' ><", "A: '\t' ><", "A: '\x00' ><", "A: '\x1f' ><", "A: '\x7f' ><", "A: '\xff' ><", "A: '\x80' ><", "A: '\xc3' ><", "A: '\xc3\xa9\xa9' ><", "A: '\xc0\xa0' ><", "A: '\xed\xa0\x80' ><", "A: '\xf4\x90\x80\x80' ><", "A: '\r' ><", "A: \"a\" ><", "A: `a` ><", "A: '#", "A: '# ><", "A: '", "A: 'e\u0301' ><", "A: \u2018a\u2019 ><", "A: '\u00e9 ><", "A: \u00e9 ><", "A: B\u00e9 ><", "A: B\xff ><", "\xff", "\u00e9: ><",
		"A: \\u{} ><", "A: \\u{110000} ><", "A: \\u{ffffff} ><", "A: \\u{0000041} ><", "A: \\u{10ffff0} ><", "A: \\u{g} ><", "A: \\u{4g} ><", "A: \\u{ 41} ><", "A: \\u{41 } ><", "A: \\u{+41} ><", "A: \\u{-41} ><", "A: \\u{-0} ><", "A: \\u{4_1} ><", "A: \\u{0x41} ><", "A: \\u{41 ><", "A: \\u41 ><", "A: \\u41} ><", "A: \\U{41} ><", "A: \\x{41} ><", "A: u{41} ><", "A: \\ u{41} ><", "A: \\u {41} ><", "A: \\u{4#} ><", "A: \\u{'4'} ><", "A: \\u{\u0664} ><", "A: \\#", "A: \\",
		"let", "let A", "let A =", "let = B", "let A B", "let A = B C", "let A = (B)", "let A = B*", "let A = B | C", "let A = ><", "let A = =", "let A = = B", "let A == B", "let 'a' = B", "let [A] = B", "let A = [B] C", "let A = [B", "let A = 'b'..", "let A = ^", "let A = ^ B", "let A: B", "let A = B:", "let A = B ><", "let A = ()", "let A = $", "letA = B", "Let A = B", "LET A = B", "let A B = C", "let A = B = C",
		"skip", "skip A B", "skip (A)", "skip A*", "skip ><", "skip = A", "skip A = B", "skip ^", "skip [A", "skip A..B", "Skip A", "skips A", "skip [A] [B]", "skip ^ A", "skip A $",
		"suppress A B", "suppress (A)", "suppress A*", "suppress ><", "suppress = A", "suppress ^", "suppress [A", "suppress 'a'..", "Suppress", "suppress suppress suppress", "suppress A :", "suppress ()", "suppress $",
		"else", "else A", "else <> x", "else <> ><", "else <> <>", "else ><<>", "else = <>", "else ^ <>", "else <> $", "else (<>)", "Else <>", "else B <>", "else A >< B", "elses <>", "<> else",
		strings.Repeat("n", api.MaxName+1) + ": ><", "A: " + strings.Repeat("n", api.MaxName+1) + " ><", "let " + strings.Repeat("n", api.MaxName+1) + " = A", "skip [A " + strings.Repeat("n", 2*api.MaxName) + "]", "x" + strings.Repeat("_9", api.MaxName) + ": ><",
	}
	return list
}

func TestP9_1_NoLine(t *testing.T) {
	for _, line := range noLines() {
		expectFault(t, "P9.1", line, 1, api.ErrText)
		expectFault(t, "P9.1", "let P = Q\nA: P ><\n\t "+line+" # x\nelse <>", 3, api.ErrText)
		expectFault(t, "P9.1", "skip P\r\nsuppress\r\nelse <>\r\n#\r\n"+line+"\r\n\xff", 5, api.ErrText)
	}
	most := strings.Repeat("n", api.MaxName)
	expect(t, "P9.1: a name as long as may be", most+": "+most+"'a'"+most+" ><\nelse <>", made(true, rule(most, seq(class(most), span('a', 'a'), class(most)), false, empty())))
	expect(t, "P9.1: a let's name as long as may be", "let "+most+" = A\nB: "+most+" ><\nelse <>", made(true, rule("B", class("A"), false, empty())))
}

// TestP9_1_Order: of the faults of one line the first is told.
func TestP9_1_Order(t *testing.T) {
	head := text("let N = [^ A]", "let P = Q", "R: C ><", "skip S", "suppress", "")
	deep := strings.Repeat("(", api.MaxNest+1)
	shut := strings.Repeat(")", api.MaxNest+1)
	long := strings.Repeat(" B", api.MaxExpr)
	for _, c := range []struct {
		line string
		want error
	}{
		{"X: " + deep + shut + " 'a'..'" + " ><", api.ErrText}, // cannot be cut, and nested too deep
		{deep + " .", api.ErrText},
		{deep, api.ErrMany}, // nested too deep, and no line
		{"X: " + deep + " ><", api.ErrMany},
		{"X: >< " + shut + deep + deep, api.ErrMany},
		{"X: " + shut + deep + " ><", api.ErrText}, // never deeper than it may be
		{"X: " + strings.Repeat("()", 99) + "(" + " ><", api.ErrText},
		{"let " + deep, api.ErrMany},
		{"X: [N] 'b'..'a' (><", api.ErrText}, // no line, and all else
		{"R: [N] 'b'..'a'" + long + " ><", api.ErrArg},
		{"R: 'b'..'a' [N]" + long + " ><", api.ErrArg},
		{"R: 'b'..'a'" + long + " >< [N]", api.ErrArg},
		{"R: 'b'..'a'" + long + " ><", api.ErrOrder},
		{"R: " + long + " >< 'b'..'a'", api.ErrOrder},
		{"R: ['x' 'b'..'a']" + long + " ><", api.ErrOrder},
		{"R: " + long + " ><", api.ErrTwice},
		{"R: ><", api.ErrTwice},
		{"X: " + long + " ><", api.ErrMany},
		{"X: >< " + long, api.ErrMany},
		{"let P = [N 'b'..'a']", api.ErrArg},
		{"let C = [N]", api.ErrArg},
		{"let P = 'b'..'a'", api.ErrOrder},
		{"let C = 'b'..'a'", api.ErrOrder},
		{"let C = D", api.ErrOrder},
		{"let P = D", api.ErrTwice},
		{"let P = P", api.ErrTwice},
		{"skip [N 'b'..'a']", api.ErrArg},
		{"skip 'b'..'a'", api.ErrOrder},
		{"skip S", api.ErrTwice},
		{"skip []", api.ErrTwice},
		{"suppress [N 'b'..'a']", api.ErrArg},
		{"suppress 'b'..'a'", api.ErrOrder},
		{"suppress S", api.ErrTwice},
		{"suppress", api.ErrTwice},
	} {
		expectFault(t, "P9.1", head+c.line, 6, c.want)
		expectFault(t, "P9.1: the first line's fault", head+"\n"+c.line+"\n.\n"+deep, 7, c.want)
	}
}

// TestP9_1_Full: of the 65th rule and of the 65th let.
func TestP9_1_Full(t *testing.T) {
	var head strings.Builder
	head.WriteString("let N = [^ A]\n")
	for i := range api.MaxLets - 1 {
		fmt.Fprintf(&head, "let L%d = C\n", i)
	}
	for i := range api.MaxRules {
		fmt.Fprintf(&head, "R%d: ><\n", i)
	}
	full := head.String()
	lines := api.MaxLets + api.MaxRules
	r, line, err := rules.Parse(full + "skip A\nsuppress\nelse <>")
	if err != nil || line != 0 || len(r.Rules) != api.MaxRules || r.Suppress != api.MaxRules || rules.Check(r) != nil {
		t.Errorf("P9.1: as many rules and lets as may be: %d, %d, %v", len(r.Rules), line, err)
	}
	for more, want := range map[string]error{
		"X: ><": api.ErrMany, "R0: ><": api.ErrMany, "X: [N] ><": api.ErrMany, "X: 'b'..'a' ><": api.ErrMany, "X: " + strings.Repeat("B ", api.MaxExpr) + "><": api.ErrMany, "X: (><": api.ErrText, "X: ><.": api.ErrText, "let: ><": api.ErrMany,
		"let X = A": api.ErrMany, "let L0 = A": api.ErrMany, "let X = [N]": api.ErrMany, "let C = A": api.ErrMany, "let X = 'b'..'a'": api.ErrMany, "let X = X": api.ErrMany, "let X = ": api.ErrText, "let X": api.ErrText,
	} {
		expectFault(t, "P9.1: one more", full+more, lines+1, want)
		expectFault(t, "P9.1: one more", full+"else <>\n"+more, lines+2, api.ErrText)
	}
}

func TestP9_1_MaxNest(t *testing.T) {
	open, shut := strings.Repeat("(", api.MaxNest), strings.Repeat(")", api.MaxNest)
	expectLeft(t, "P9.1: as deep as may be", open+"B"+shut, class("B"))
	expectLeft(t, "P9.1: as deep again and again", open+"B"+shut+open+"C"+shut, seq(class("B"), class("C")))
	expectLeft(t, "P9.1: signs are not brackets", "'('"+open+"'('"+shut, seq(span('(', '('), span('(', '(')))
	for _, line := range []string{"A: (" + open + "B" + shut + ") ><", "A: >< (" + open + shut + ")", "A: " + open + "B (C)" + shut + " ><", "A: " + open + shut + " >< " + open + "(" + shut + ")", "A: " + open + " >< (" + shut + ")", "let A = (" + open, "skip (" + open, "else (" + open, "(" + open, "A: )" + open + "((", "A: [(" + open + "] ><"} {
		expectFault(t, "P9.1: one too deep", line, 1, api.ErrMany)
		expectFault(t, "P9.1: one too deep, behind an else", "else <>\n"+line, 2, api.ErrMany)
	}
	deep := strings.Repeat("(A* B | C ", api.MaxNest) + strings.Repeat(")", api.MaxNest)
	if r := parsed(t, "A: "+deep+" ><\nelse <>"); expr.Size(r.Rules[0].Left) < 5*api.MaxNest {
		t.Errorf("P9.1: %d nodes of a deep side", expr.Size(r.Rules[0].Left))
	}
}

func TestP9_1_MaxExpr(t *testing.T) {
	row := func(n int) string { return strings.Repeat("B ", n) }
	for _, c := range []struct {
		ahead, left string
		size        int // of the side as written out; 0: too great
	}{
		{"", row(api.MaxExpr - 1), api.MaxExpr},
		{"", row(api.MaxExpr), 0},
		{"", strings.Repeat("()", 9*api.MaxExpr), 1},
		{"", strings.Repeat("(B)", api.MaxExpr-1), api.MaxExpr},
		{"", strings.Repeat("(B)()", api.MaxExpr), 0},
		{"", strings.Repeat("|", api.MaxExpr-2), api.MaxExpr},
		{"", strings.Repeat("|", api.MaxExpr-1), 0},
		{"", strings.Repeat("B*", api.MaxExpr/2-1) + "B", api.MaxExpr},
		{"", strings.Repeat("B*", api.MaxExpr/2), 0},
		{"", "B" + strings.Repeat("*", 127), 128},
		{"", "B" + strings.Repeat("+", 128), 0},
		{"", "B" + strings.Repeat("?", 100000), 0},
		{"", "(B C" + strings.Repeat("*", 126) + ")", 129},
		{"", "(B C" + strings.Repeat("*", 127) + ")", 0},
		{"skip S", row(api.MaxExpr / 3), api.MaxExpr},
		{"skip S", row(api.MaxExpr/3 + 1), 0},
		{"skip S", "B" + strings.Repeat("*", 125), 129},
		{"skip S", "B" + strings.Repeat("*", 126), 0},
		{"skip S", "()" + strings.Repeat("*", 127), 128},
		{"skip S", "()" + strings.Repeat("*", 128), 0},
	} {
		for _, sides := range []string{c.left + " ><", ">< " + c.left} {
			file := c.ahead + "\nA: " + sides + "\nelse <>"
			if c.size == 0 {
				expectFault(t, "P9.1: too great", file, 2, api.ErrMany)
				continue
			}
			r := parsed(t, file)
			if size := expr.Size(r.Rules[0].Left) + expr.Size(r.Rules[0].Right) - 1; size != c.size {
				t.Errorf("P9.1: %.80q has %d nodes, want %d", file, size, c.size)
			}
		}
	}
	most := row(api.MaxExpr - 1)
	if r := parsed(t, "A: "+most+" >< "+most+"\nelse <>"); rules.Check(r) != nil {
		t.Errorf("P9.1: both sides as great as may be")
	}
}

// pointsText is so many points of which none touches another.
func pointsText(n int) string { return everySecond(0x10000, n) }

// everySecond is so many points from the first on.
func everySecond(first, n int) string {
	var b strings.Builder
	for i := range n {
		b.WriteString("'" + string(rune(first+2*i)) + "'")
	}
	return b.String()
}

func TestP9_1_MaxSpans(t *testing.T) {
	most := "let L = [" + pointsText(api.MaxSpans) + "]\n"
	for _, c := range []struct {
		lines string
		line  int // 0: no fault
	}{
		{"A: L ><", 0}, {"A: [L] >< L", 0}, {"A: L [] ><", 0}, {"A: [^L] >< [L L L]", 0}, {"A: L L ><", 2}, {"A: >< L B", 2}, {"A: B L ><", 2}, {"A: [B L] ><", 2}, {"A: ['a' L] ><", 2}, {"A: L\u0020'a' ><", 2}, {"A: [L \\u{10001}] ><", 0}, {"A: [L \\u{10001}] 'a' ><", 0}, {"A: [L \\u{10001}] 'a' 'b' ><", 2},
		{"suppress L", 0}, {"suppress [L L]", 0}, {"suppress [L A]", 2}, {"suppress [L 'a']", 2}, {"suppress [L \\u{10001} A]", 0},
		{"let M = [L A]", 0}, {"let M = [L A]\nlet K = [M B]\nA: >< B", 0}, {"let M = [L A]\nA: M ><", 3}, {"let M = [L 'a']\nsuppress M", 3}, {"let M = [L 'a']\nsuppress M\nsuppress M", 3}, {"let M = [L \\u{10001} A 'a']\nA: M ><", 3}, {"let M = [L \\u{10001} 'a']\nA: M ><", 0},
		{"skip L\nA: ><", 0}, {"skip [L A]\nA: ()* | () ><", 0}, {"skip L\nA: [] ><", 0}, {"skip L\nA: B ><", 3}, {"skip L\nA: >< B", 3}, {"skip L\nA: [] [] ><", 3}, {"skip [L A]\nA: [] ><", 3}, {"A: B ><\nskip [L A]\nsuppress L\nC: ><", 0},
	} {
		if c.line > 0 {
			expectFault(t, "P9.1", most+c.lines, c.line, api.ErrMany)
			continue
		}
		if r := parsed(t, most+c.lines+"\nelse <>"); rules.Check(r) != nil {
			t.Errorf("P9.4: Check of %q", c.lines)
		}
	}
}

// TestP9_1_Great: few bytes may stand for a great deal, that is not made for nothing.
func TestP9_1_Great(t *testing.T) {
	begun := time.Now()
	great := "let L = [" + pointsText(api.MaxSpans) + "]\n"
	room := api.MaxFile - len(great) - 100
	for _, piece := range []string{"L ", "[L L]"} {
		expectFault(t, "P9.1", great+"A: "+strings.Repeat(piece, room/len(piece))+" ><", 2, api.ErrMany)
	}
	all := "[" + strings.Repeat("L ", room/2) + "]"
	parsed(t, great+"suppress "+all+"\nelse <>")
	parsed(t, great+"A: "+all+" ><\nelse <>")
	parsed(t, great+"let M = "+all+"\nelse <>")
	halves := "let K = [" + pointsText(20000) + "]\nlet M = [" + everySecond(0x10001, 20000) + "]\n"
	r := parsed(t, halves+"A: "+strings.Repeat("[K M]", api.MaxExpr-1)+" ><\nelse <>")
	if left := r.Rules[0].Left; len(left.Parts) != api.MaxExpr-1 || len(left.Parts[9].Set.Points) != 1 {
		t.Errorf("P9.1: two halves that touch: %d parts", len(left.Parts))
	}
	expectFault(t, "P9.1", "A: B"+strings.Repeat("*", api.MaxFile-10)+" ><", 1, api.ErrMany)
	expectFault(t, "P9.1", strings.Repeat("(", api.MaxFile), 1, api.ErrMany)
	expectFault(t, "P9.1", strings.Repeat(")", api.MaxFile), 1, api.ErrText)
	expectFault(t, "P9.1", "A:"+strings.Repeat("A|", api.MaxFile/4)+"><", 1, api.ErrMany)
	expectFault(t, "P9.1", strings.Repeat("n", api.MaxFile), 1, api.ErrText)
	expectFault(t, "P9.1", "A: \\u{"+strings.Repeat("0", api.MaxFile-10), 1, api.ErrText)
	if took := time.Since(begun); took > 20*time.Second {
		t.Errorf("P9.1: great files took %v", took)
	}
}

func TestP9_1_MaxFile(t *testing.T) {
	full := "else <>#" + strings.Repeat("x", api.MaxFile-8)
	expect(t, "P9.1: as long as may be", full, made(true))
	expectFault(t, "P9.1: one byte too many", full+"x", 0, api.ErrMany)
	expectFault(t, "P9.1: nothing is read", strings.Repeat(".", api.MaxFile+1), 0, api.ErrMany)
	expectFault(t, "P9.1: all lines empty", strings.Repeat("\n", api.MaxFile), 0, api.ErrShort)
	expectFault(t, "P9.1: the last of all lines", strings.Repeat("\n", api.MaxFile-1)+".", api.MaxFile, api.ErrText)
}
