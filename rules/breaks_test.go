package rules_test

import (
	"fmt"
	"slices"
	"strings"
	"testing"
	"time"

	"caesura/api"
	"caesura/expr"
	"caesura/rules"
)

// units makes a word of letters: small ones are points of the class of the great letter, ! is a bad unit, all else is Other.
func units(letters string) []api.Kind {
	var word []api.Kind
	for _, c := range letters {
		switch {
		case c == '!':
			word = append(word, api.Kind{Class: api.Other, Point: api.Bad})
		case c >= 'a' && c <= 'z':
			word = append(word, api.Kind{Class: strings.ToUpper(string(c)), Point: int(c)})
		default:
			word = append(word, api.Kind{Class: api.Other, Point: int(c)})
		}
	}
	return word
}

// entries are the points of words.
func entries(words ...string) [][]int {
	var list [][]int
	for _, w := range words {
		var points []int
		for _, k := range units(w) {
			points = append(points, k.Point)
		}
		list = append(list, points)
	}
	return list
}

func expectBreaks(t *testing.T, promise string, r api.Rules, list [][]int, letters string, want ...int) {
	t.Helper()
	if got := rules.Breaks(r, list, units(letters)); !slices.Equal(got, want) {
		t.Errorf("%s: Breaks(%.300s, %v, %q) = %v, want %v", promise, shown(r), list, letters, got, want)
	}
}

func TestP9_5_Examples(t *testing.T) {
	for _, c := range []struct {
		rules   string
		entries []string
		word    string
		want    []int
	}{
		{"A: 'a' >< 'b'\nelse <>", nil, "aab", []int{0, 1, 3}},
		{"suppress\nelse <>", []string{"ab"}, "xaby", []int{0, 1, 4}},
		{"else <>", nil, "", nil}, {"else ><", nil, "", nil}, {"else <>", nil, "a", []int{0, 1}}, {"else ><", nil, "a", []int{0, 1}}, {"A: >< \nelse <>", nil, "a", []int{0, 1}}, {"else <>", nil, "abc", []int{0, 1, 2, 3}}, {"else ><", nil, "abc", []int{0, 3}},
		{"A: <>\nB: ><\nelse ><", nil, "abc", []int{0, 1, 2, 3}}, {"A: ><\nB: <>\nelse <>", nil, "abc", []int{0, 3}}, {"A: A ><\nB: A <>\nC: B <>\nelse ><", nil, "abab", []int{0, 2, 4}},
		{"A: ^ A A <>\nelse ><", nil, "aaaa", []int{0, 2, 4}}, {"A: <> A A $\nelse ><", nil, "aaaa", []int{0, 2, 4}}, {"A: ^ A* <> A $\nelse ><", nil, "aaaa", []int{0, 3, 4}}, {"A: ^ <>\nelse ><", nil, "aa", []int{0, 2}}, {"A: <> $\nelse ><", nil, "aa", []int{0, 2}}, {"A: ^ (A A)* A <>\nelse ><", nil, "aaaaa", []int{0, 1, 3, 5}},
		{"A: A B <> C\nelse ><", nil, "abcabdabc", []int{0, 2, 8, 9}}, {"A: A B* <> C* D\nelse ><", nil, "abbccdad", []int{0, 3, 7, 8}}, {"A: (A | B C) <> (D | A E)\nelse ><", nil, "adbcaebd", []int{0, 1, 4, 8}}, {"A: [^ A] <> [^ A]\nelse ><", nil, "abb!c", []int{0, 2, 3, 4, 5}},
		{"skip S\nA: A B <> C D\nelse ><", nil, "asbssscsd", []int{0, 6, 9}}, {"skip S\nA: A <>\nelse ><", nil, "assb", []int{0, 1, 2, 3, 4}},
		{"suppress B\nelse <>", []string{"a"}, "abbcab", []int{0, 4, 6}}, {"suppress [^]\nelse <>", []string{"a"}, "xabcd", []int{0, 1, 5}}, {"suppress 'b'\nelse <>", []string{"ab"}, "abbbaa", []int{0, 5, 6}}, {"A: A <>\nsuppress\nelse <>", []string{"abc"}, "abcd", []int{0, 1, 4}}, {"A: A <>\nsuppress\nB: <>\nelse ><", []string{"abc"}, "abcd", []int{0, 1, 4}}, {"suppress\nA: A <>\nelse ><", []string{"abc"}, "abcd", []int{0, 4}}, {"A: >< \nsuppress\nelse <>", []string{"a"}, "bb", []int{0, 2}},
		{"suppress\nelse <>", []string{"", "b"}, "abc", []int{0, 1, 3}}, {"suppress\nelse <>", []string{""}, "abc", []int{0, 1, 2, 3}}, {"suppress [^]\nelse <>", []string{""}, "abc", []int{0, 1, 2, 3}}, {"else <>", []string{"ab"}, "ab", []int{0, 1, 2}}, {"suppress\nelse <>", []string{"aa"}, "aaab", []int{0, 4}}, {"suppress\nelse <>", []string{"abc"}, "ab", []int{0, 1, 2}}, {"suppress\nelse <>", []string{"abc", "cd"}, "abcde", []int{0, 5}}, {"suppress\nelse <>", []string{"c"}, "abc", []int{0, 1, 2, 3}}, {"suppress\nelse <>", []string{"b"}, "Abb", []int{0, 1, 3}}, {"suppress\nelse <>", []string{"B"}, "abb", []int{0, 1, 2, 3}},
		{"suppress B\nelse <>", []string{"a", "b"}, "acbcab", []int{0, 2, 4, 6}}, {"suppress [B C]\nelse <>", []string{"a"}, "abcbd", []int{0, 5}}, {"suppress [B C]\nelse <>", []string{"a"}, "abdb", []int{0, 3, 4}}, {"suppress ' '\nelse <>", []string{"a."}, "ba. cd", []int{0, 1, 5, 6}},
		{"suppress\nelse <>", []string{"!"}, "a!b", []int{0, 1, 3}}, {"suppress Other\nelse <>", []string{"a"}, "a!!b", []int{0, 4}}, {"suppress \\u{0}..\\u{10ffff}\nelse <>", []string{"a"}, "a!!b", []int{0, 2, 3, 4}},
	} {
		expectBreaks(t, "P9.5", parsed(t, c.rules), entries(c.entries...), c.word, c.want...)
	}
}

// TestP9_5_AnyRules: what Parse would never answer.
func TestP9_5_AnyRules(t *testing.T) {
	a := class("A")
	all := api.Rules{Suppress: -1, Else: true}
	for suppress, want := range map[int][]int{-1 << 63: {0, 1, 2}, -9: {0, 1, 2}, -2: {0, 1, 2}, -1: {0, 1, 2}, 0: {0, 2}, 1: {0, 2}, 9: {0, 2}, 1<<63 - 1: {0, 2}} {
		all.Suppress = suppress
		expectBreaks(t, "P9.5: Suppress", all, entries("a"), "ab", want...)
	}
	two := []api.Rule{rule("", a, true, empty()), rule("", empty(), true, a)}
	for suppress, want := range map[int][]int{-5: {0, 1, 2, 3, 4}, -1: {0, 1, 2, 3, 4}, 0: {0, 3, 4}, 1: {0, 1, 3, 4}, 2: {0, 1, 2, 3, 4}, 3: {0, 1, 2, 3, 4}} {
		expectBreaks(t, "P9.5: names are not asked", api.Rules{Rules: two, Suppress: suppress}, entries("ab"), "abaa", want...)
	}
	for _, bad := range []api.Expr{{}, {Kind: 8}, {Kind: -1}, seq(a), seq(), alt(), alt(a), seq(empty(), a), seq(a, seq(a, a)), alt(a, alt(a, a)), node(api.ExprStar), node(api.ExprStar, a, a), node(api.ExprEmpty, a), {Kind: api.ExprEmpty, Set: api.Set{Not: true}}, {Kind: api.ExprSeq, Set: api.Set{Not: true}, Parts: []api.Expr{a, a}}, {Kind: api.ExprSet, Set: api.Set{Not: true}, Parts: []api.Expr{a}}, class("A", "A"), span(5, 4), of(many(api.MaxSpans + 1)), ring(api.ExprStar, 1), ring(api.ExprAlt, 2), node(api.ExprSeq, slices.Repeat([]api.Expr{opt(a)}, api.MaxExpr/2)...)} {
		for _, ends := range []bool{false, true} {
			for _, r := range []api.Rule{{Left: bad, Right: empty()}, {Left: empty(), Right: bad}, {Left: bad, Right: bad}} {
				r.Start, r.End, r.Break = ends, ends, true
				expectBreaks(t, "P9.5: what may not be matches nothing", made(false, r), nil, "aab", 0, 3)
			}
		}
	}
	strange := api.Rules{Trail: api.Set{Names: []string{"C", "B", "B"}, Points: []api.Range{{Low: 9, High: 5}, {Low: 'e', High: 'f'}, {Low: 'e', High: 'e'}}}, Else: true}
	expectBreaks(t, "P9.5: a trail that may not be holds what it holds", strange, entries("a"), "abcedb", 0, 5, 6)
	strange.Trail.Not = true
	expectBreaks(t, "P9.5: and all else", strange, entries("a"), "axyzbx", 0, 5, 6)
	list := made(false)
	for range 200 {
		list.Rules = append(list.Rules, rule("", class("Z"), false, empty()))
	}
	list.Rules = append(list.Rules, rule("", a, true, empty()))
	expectBreaks(t, "P9.5: more rules than may be", list, nil, "ab", 0, 1, 2)
	expectBreaks(t, "P9.5: entries of any length", api.Rules{Else: true}, entries(strings.Repeat("ab", 50)), "x"+strings.Repeat("ab", 50)+"y", 0, 1, 102)
	for _, p := range []int{-1 << 63, -2, 0x110000, 1<<63 - 1} {
		word := []api.Kind{{Class: "A", Point: p}, {Class: "A", Point: 5}, {Class: "", Point: p}, {}}
		if got := rules.Breaks(api.Rules{Else: true}, [][]int{{p}}, word); !slices.Equal(got, []int{0, 2, 4}) {
			t.Errorf("P9.5: a point of any number: %v", got)
		}
	}
}

// TestP9_5_Greatest: sides as great as may be, with which nothing more can be written.
func TestP9_5_Greatest(t *testing.T) {
	a, b := class("A"), class("B")
	deep := a
	for range 127 {
		deep = star(deep)
	}
	opts := seq(slices.Repeat([]api.Expr{opt(a)}, (api.MaxExpr-2)/2)...)
	opts.Parts = append(opts.Parts, b)
	wide := alt(slices.Repeat([]api.Expr{a}, api.MaxExpr-2)...)
	wide.Parts = append(wide.Parts, b)
	for _, e := range []api.Expr{deep, opts, wide} {
		if expr.Check(e) != nil || e.Kind != api.ExprStar && expr.Size(e) != api.MaxExpr {
			t.Fatalf("P9.5: %d nodes, %v", expr.Size(e), expr.Check(e))
		}
		for _, r := range []api.Rules{made(false, rule("A", e, true, class("C"))), made(false, rule("A", class("C"), true, e)), made(true, rule("A", e, false, e)), made(false, api.Rule{Left: e, Right: class("C"), Start: true, Break: true}), made(false, api.Rule{Left: class("C"), Right: e, End: true, Break: true})} {
			for _, letters := range []string{"aabcab", "cbcaac", "cab"} {
				expectBreaks(t, "P9.5", r, nil, letters, breaksAfterWords(r, nil, units(letters))...)
			}
		}
	}
	names := of(api.Set{Names: []string{"A"}, Points: many(api.MaxSpans - 1).Points})
	expectBreaks(t, "P9.5", made(false, rule("A", names, true, class("B"))), nil, "aab", 0, 2, 3)
}

// fitsAfterWords: the page's 'Deciding a place'.
func fitsAfterWords(r api.Rule, word []api.Kind, i int) bool {
	left, right := false, false
	for j := 0; j <= i && !left; j++ {
		left = (j == 0 || !r.Start) && expr.Match(r.Left, word[j:i])
	}
	for j := len(word); j >= i && !right; j-- {
		right = (j == len(word) || !r.End) && expr.Match(r.Right, word[i:j])
	}
	return left && right
}

func hasPoints(word []api.Kind, points []int) bool {
	return slices.EqualFunc(word, points, func(k api.Kind, p int) bool { return k.Point == p })
}

// hiddenAfterWords: is there an entry that can be cut in two at the place, or that stands ahead of it with the trail between?
func hiddenAfterWords(trail api.Set, list [][]int, word []api.Kind, i int) bool {
	for _, w := range list {
		for cut := 1; cut < len(w); cut++ {
			if cut <= i && i+len(w)-cut <= len(word) && hasPoints(word[i-cut:i], w[:cut]) && hasPoints(word[i:i+len(w)-cut], w[cut:]) {
				return true
			}
		}
		for end := 0; end <= i; end++ {
			unheld := func(k api.Kind) bool { return !expr.Holds(trail, k) }
			if len(w) > 0 && end >= len(w) && hasPoints(word[end-len(w):end], w) && !slices.ContainsFunc(word[end:i], unheld) {
				return true
			}
		}
	}
	return false
}

// breaksAfterWords is Breaks.
func breaksAfterWords(r api.Rules, list [][]int, word []api.Kind) []int {
	if len(word) == 0 {
		return nil
	}
	breaks := []int{0}
	for i := 1; i < len(word); i++ {
		decided, is := false, r.Else
		for n := 0; n <= len(r.Rules) && !decided; n++ {
			if (n == r.Suppress || n == len(r.Rules) && r.Suppress > n) && hiddenAfterWords(r.Trail, list, word, i) {
				decided, is = true, false
			} else if n < len(r.Rules) && fitsAfterWords(r.Rules[n], word, i) {
				decided, is = true, r.Rules[n].Break
			}
		}
		if is {
			breaks = append(breaks, i)
		}
	}
	return append(breaks, len(word))
}

// smallSet is a set over the letters a, b, c.
func (d drawn) smallSet() api.Set {
	return pick(d, api.Set{Names: []string{"A"}}, api.Set{Names: []string{"B"}}, api.Set{Names: []string{"A", "C"}}, api.Set{Points: []api.Range{{Low: 'b', High: 'c'}}}, api.Set{Not: true, Names: []string{"C"}}, api.Set{Not: true}, api.Set{Points: []api.Range{{Low: 'a', High: 'a'}}}, api.Set{Names: []string{"Other"}})
}

// withSmallSets is e with sets over the letters.
func (d drawn) withSmallSets(e api.Expr) api.Expr {
	if e.Kind == api.ExprSet {
		return of(d.smallSet())
	}
	var parts []api.Expr
	for _, part := range e.Parts {
		parts = append(parts, d.withSmallSets(part))
	}
	return node(e.Kind, parts...)
}

// smallRules are up to four over the letters a, b, c; some may not be.
func (d drawn) smallRules() api.Rules {
	r := api.Rules{Suppress: d.Intn(8) - 2, Trail: d.smallSet(), Else: d.bool()}
	if d.bool() {
		r.Trail = api.Set{}
	}
	for range d.Intn(4) {
		one := api.Rule{Left: d.withSmallSets(d.expr(2)), Right: d.withSmallSets(d.expr(2)), Start: d.Intn(4) == 0, End: d.Intn(4) == 0, Break: d.bool()}
		if d.Intn(20) == 0 {
			one.Left = seq(class("A"))
		}
		r.Rules = append(r.Rules, one)
	}
	return r
}

func (d drawn) letters(most int) string {
	var b strings.Builder
	for range d.Intn(most + 1) {
		b.WriteByte("aaabbc!"[d.Intn(7)])
	}
	return b.String()
}

// all is all words of up to so many of these letters.
func all(letters string, most int) []string {
	list := []string{""}
	for from := 0; most > 0; most-- {
		level := list[from:]
		from = len(list)
		for _, w := range level {
			for _, c := range letters {
				list = append(list, w+string(c))
			}
		}
	}
	return list
}

func TestP9_5_Samples(t *testing.T) {
	d := newDrawn(95)
	within, hidden := 0, 0
	for range 12000 {
		r, word := d.smallRules(), units(d.letters(8))
		var list [][]int
		for range d.Intn(3) {
			list = append(list, entries(d.letters(3))...)
		}
		want := breaksAfterWords(r, list, word)
		got := rules.Breaks(r, list, word)
		if !slices.Equal(got, want) {
			t.Fatalf("P9.5: Breaks(%s, %v, %v) = %v, want %v", shown(r), list, word, got, want)
		}
		if len(want) > 2 && len(want) <= len(word) {
			within++
		}
		if len(want) < len(breaksAfterWords(r, nil, word)) {
			hidden++
		}
	}
	if within < 1000 || hidden < 300 {
		t.Errorf("P9.5: only %d samples with some places and not all, %d with hidden ones", within, hidden)
	}
}

// TestP9_5_Small: some rules with all small words.
func TestP9_5_Small(t *testing.T) {
	d := newDrawn(955)
	words := all("abc", 4)
	for range 60 {
		r := d.smallRules()
		list := entries(d.letters(2), d.letters(3))
		for _, letters := range words {
			expectBreaks(t, "P9.5", r, list, letters, breaksAfterWords(r, list, units(letters))...)
		}
	}
}

// TestP9_5_Long: rules like those for sentences, and a long text.
func TestP9_5_Long(t *testing.T) {
	r := parsed(t, text("let T = [A B]", "R0: R >< L", "R1: [R L S] <>", "R2: >< E", "skip E", "R3: A >< N", "R4: A C* P* >< [^ O U L R S A B]* L", "R5: T C* P* >< [A B]", "R6: T C* >< [C P R S]", "suppress P", "R7: T C* P* <>", "else ><"))
	sentence := "oga ppugeeca peugougb ugapn"
	list := entries("oga", "gb u")
	expectBreaks(t, "P9.5", r, list, strings.Repeat(sentence, 3), breaksAfterWords(r, list, units(strings.Repeat(sentence, 3)))...)
	begun := time.Now()
	word := units(strings.Repeat(sentence, 80))
	if got := rules.Breaks(r, list, word); len(got) < 80 || len(got) > len(word)/4 {
		t.Errorf("P9.5: %d places of %d units", len(got), len(word))
	}
	if took := time.Since(begun); took > 20*time.Second {
		t.Errorf("P9.5: %d units took %v", len(word), took)
	}
}

// TestP9_6_Skip: behind a skip the sides match more words, never fewer.
func TestP9_6_Skip(t *testing.T) {
	d := newDrawn(96)
	words := all("abc", 3)
	more := 0
	for range 400 {
		left := printAfterWords(made(true, rule("A", d.withSmallSets(d.expr(2)), true, d.withSmallSets(d.expr(2)))))
		plain, skipping := parsed(t, left).Rules[0], parsed(t, "skip "+setAfterWords(d.smallSet())+"\n"+left).Rules[0]
		for _, letters := range words {
			for _, sides := range [][2]api.Expr{{plain.Left, skipping.Left}, {plain.Right, skipping.Right}} {
				before, after := expr.Match(sides[0], units(letters)), expr.Match(sides[1], units(letters))
				if before && !after {
					t.Fatalf("P9.6: %q does not match %q any more", left, letters)
				}
				if after && !before {
					more++
				}
			}
		}
	}
	if more < 500 {
		t.Errorf("P9.6: only %d words are matched behind a skip alone", more)
	}
}

// TestP9_6_Entries: more entries take places away, and put none there; none are like no suppress.
func TestP9_6_Entries(t *testing.T) {
	d := newDrawn(966)
	fewer := 0
	for range 4000 {
		r, word := d.smallRules(), units(d.letters(9))
		few := entries(d.letters(2))
		more := append(entries(d.letters(3), d.letters(1)), few...)
		plain := r
		plain.Suppress = -1
		none, some, most := rules.Breaks(r, nil, word), rules.Breaks(r, few, word), rules.Breaks(r, more, word)
		if !slices.Equal(none, rules.Breaks(plain, more, word)) {
			t.Fatalf("P9.6: without entries %v", none)
		}
		for _, lists := range [][2][]int{{none, some}, {some, most}} {
			for _, place := range lists[1] {
				if !slices.Contains(lists[0], place) {
					t.Fatalf("P9.6: more entries put %d there: %s, %v", place, shown(r), word)
				}
			}
			if len(lists[1]) < len(lists[0]) {
				fewer++
			}
		}
		if len(none) > len(word)+1 || !slices.IsSorted(none) || len(word) > 0 && (none[0] != 0 || none[len(none)-1] != len(word)) {
			t.Fatalf("P9.6: %v of %d units", none, len(word))
		}
	}
	if fewer < 200 {
		t.Errorf("P9.6: only %d times fewer places", fewer)
	}
}

// TestP9_7_Bytes: files of any bytes.
func TestP9_7_Bytes(t *testing.T) {
	d := newDrawn(97)
	for range 20000 {
		file := []byte(d.file())
		for range 1 + d.Intn(5) {
			file[d.Intn(len(file))] = byte(d.Intn(256))
		}
		r, line, err := rules.Parse(string(file))
		if err != nil && shown(r) != shown(api.Rules{}) || err == nil && line != 0 || line < 0 || line > strings.Count(string(file), "\n")+1 {
			t.Fatalf("P9.7: %q: %s, %d, %v", file, shown(r), line, err)
		}
	}
}

// TestP9_7_Rules: rules, entries and words of any values.
func TestP9_7_Rules(t *testing.T) {
	d := newDrawn(977)
	for range 3000 {
		r := d.anyRules()
		rules.Check(r)
		rules.Print(r)
		rules.Breaks(r, [][]int{nil, {d.Intn(9) - 4, -1}, {}}, []api.Kind{{}, {Class: "\xff", Point: -9}, {Class: "A", Point: 1 << 40}, {Point: api.Bad}})
	}
	for _, r := range []api.Rules{{}, {Rules: []api.Rule{{}}}, {Suppress: -1 << 63}, {Suppress: 1<<63 - 1}} {
		rules.Check(r)
		rules.Print(r)
		if got := rules.Breaks(r, nil, nil); got != nil {
			t.Errorf("P9.7: of no units %v", got)
		}
	}
}

// spare is a list with room behind it.
func spare[T any](list []T, behind T) []T {
	return append(append(make([]T, 0, len(list)+2), list...), behind, behind)[:len(list)]
}

// roomy is e with room behind each of its lists.
func roomy(e api.Expr) api.Expr {
	var parts []api.Expr
	for _, part := range e.Parts {
		parts = append(parts, roomy(part))
	}
	return api.Expr{Kind: e.Kind, Set: roomySet(e.Set), Parts: spare(parts, api.Expr{Kind: 77})}
}

func roomySet(s api.Set) api.Set {
	return api.Set{Not: s.Not, Names: spare(s.Names, "behind"), Points: spare(s.Points, api.Range{Low: 7, High: 7})}
}

// roomText shows what stands behind the lists, too.
func roomText(e api.Expr) string {
	all := e.Parts[:cap(e.Parts)]
	text := fmt.Sprint(e.Kind, e.Set.Not, e.Set.Names[:cap(e.Set.Names)], e.Set.Points[:cap(e.Set.Points)], len(all))
	for _, part := range e.Parts {
		text += roomText(part)
	}
	for _, part := range all[len(e.Parts):] {
		text += fmt.Sprint(part.Kind)
	}
	return text
}

func roomRules(r api.Rules) string {
	text := fmt.Sprint(len(r.Rules), r.Suppress, r.Else, roomText(of(r.Trail)))
	for _, x := range r.Rules[:cap(r.Rules)] {
		text += x.Name + roomText(x.Left) + roomText(x.Right)
	}
	return text
}

func TestP9_7_Arguments(t *testing.T) {
	d := newDrawn(978)
	for range 1000 {
		r := d.rules(3)
		for i, x := range r.Rules {
			r.Rules[i].Left, r.Rules[i].Right = roomy(x.Left), roomy(x.Right)
		}
		r.Rules = spare(r.Rules, api.Rule{Name: "behind"})
		r.Trail = roomySet(r.Trail)
		word := spare(units(d.letters(6)), api.Kind{Class: "behind"})
		list := spare([][]int{spare([]int{'a', 'b'}, 99), spare([]int{'b'}, 99)}, []int{5})
		held := roomRules(r) + fmt.Sprint(word[:cap(word)], list[:cap(list)], list[0][:4], list[1][:3])
		rules.Check(r)
		rules.Print(r)
		rules.Breaks(r, list, word)
		if now := roomRules(r) + fmt.Sprint(word[:cap(word)], list[:cap(list)], list[0][:4], list[1][:3]); now != held {
			t.Fatalf("P9.7: an argument was changed: %s, was %s", now, held)
		}
	}
}

// leafSets are the sets of e.
func leafSets(e api.Expr) []api.Set {
	if e.Kind == api.ExprSet {
		return []api.Set{e.Set}
	}
	var list []api.Set
	for _, part := range e.Parts {
		list = append(list, leafSets(part)...)
	}
	return list
}

// TestP9_7_Answers: the lists of what Parse answers share nothing.
func TestP9_7_Answers(t *testing.T) {
	file := text("let L = [A B 'a' 'c']", "let M = L", "R: [A B 'a' 'c'] L (L | [L])* >< L [L M]", "S: M <> M", "suppress L", "skip [L C]", "T: L M >< L", "else <>")
	r := parsed(t, file)
	sets := []api.Set{r.Trail}
	for _, x := range r.Rules {
		sets = append(sets, append(leafSets(x.Left), leafSets(x.Right)...)...)
	}
	for i, s := range sets {
		others := fmt.Sprint(slices.Delete(slices.Clone(sets), i, i+1))
		for n := range s.Names[:cap(s.Names)] {
			s.Names[:cap(s.Names)][n] = fmt.Sprint("spoiled", i)
		}
		for n := range s.Points[:cap(s.Points)] {
			s.Points[:cap(s.Points)][n] = api.Range{Low: i, High: -i}
		}
		if fmt.Sprint(slices.Delete(slices.Clone(sets), i, i+1)) != others {
			t.Errorf("P9.7: the set %d shares memory", i)
		}
	}
	again := parsed(t, file)
	held := shown(again)
	var appendAll func(e api.Expr)
	appendAll = func(e api.Expr) {
		_ = append(e.Parts, api.Expr{Kind: 99})
		for _, part := range e.Parts {
			appendAll(part)
		}
	}
	for _, x := range again.Rules {
		appendAll(x.Left)
		appendAll(x.Right)
	}
	_ = append(again.Rules, api.Rule{})
	if shown(again) != held {
		t.Errorf("P9.7: who appends to a list changes another")
	}
	got := rules.Breaks(made(true), nil, units("abc"))
	got[0] = 9
	if fresh := rules.Breaks(made(true), nil, units("abc")); fresh[0] != 0 {
		t.Errorf("P9.7: Breaks answers what it answered ahead")
	}
}

// TestP9_7_Same: the same calls, the same answers.
func TestP9_7_Same(t *testing.T) {
	d := newDrawn(979)
	for range 300 {
		file := d.file()
		first, line, err := rules.Parse(file)
		for range 3 {
			r, n, e := rules.Parse(file)
			if shown(r) != shown(first) || n != line || e != err {
				t.Fatalf("P0.2: %q", file)
			}
		}
	}
}
