package expr_test

import (
	"fmt"
	"math/rand"
	"regexp"
	"slices"
	"strings"
	"testing"

	"caesura/api"
	"caesura/expr"
)

var kinds = []int{api.ExprEmpty, api.ExprSet, api.ExprSeq, api.ExprAlt, api.ExprStar, api.ExprPlus, api.ExprOpt}

func of(s api.Set) api.Expr { return api.Expr{Kind: api.ExprSet, Set: s} }

func class(names ...string) api.Expr { return of(api.Set{Names: names}) }

// span is the set of ranges whose ends stand one behind the other.
func span(ends ...int) api.Expr {
	var s api.Set
	for i := 0; i < len(ends); i += 2 {
		s.Points = append(s.Points, api.Range{Low: ends[i], High: ends[i+1]})
	}
	return of(s)
}

func point(p int) api.Expr { return span(p, p) }

func node(kind int, parts ...api.Expr) api.Expr { return api.Expr{Kind: kind, Parts: parts} }

func seq(parts ...api.Expr) api.Expr { return node(api.ExprSeq, parts...) }

func alt(parts ...api.Expr) api.Expr { return node(api.ExprAlt, parts...) }

func star(e api.Expr) api.Expr { return node(api.ExprStar, e) }

func plus(e api.Expr) api.Expr { return node(api.ExprPlus, e) }

func opt(e api.Expr) api.Expr { return node(api.ExprOpt, e) }

func empty() api.Expr { return node(api.ExprEmpty) }

// times puts e so many times one behind the other.
func times(n int, e api.Expr) []api.Expr { return slices.Repeat([]api.Expr{e}, n) }

// around puts so many nodes of a kind around e.
func around(n, kind int, e api.Expr) api.Expr {
	for range n {
		e = node(kind, e)
	}
	return e
}

// many is so many ranges of one point.
func many(n int) api.Set {
	var s api.Set
	for i := range n {
		s.Points = append(s.Points, api.Range{Low: 2 * i, High: 2 * i})
	}
	return s
}

// manyNames is so many names, rising.
func manyNames(n int) api.Set {
	var s api.Set
	for i := range n {
		s.Names = append(s.Names, fmt.Sprintf("N%06d", i))
	}
	return s
}

// ring is an expression that is a part of itself, so many times.
func ring(kind, parts int) api.Expr {
	list := make([]api.Expr, parts)
	for i := range list {
		list[i] = api.Expr{Kind: kind, Parts: list}
	}
	return list[0]
}

// shown tells nil lists and empty ones alike.
func shown(e api.Expr) string {
	var text strings.Builder
	fmt.Fprintf(&text, "%d%v%q%v(", e.Kind, e.Set.Not, e.Set.Names, e.Set.Points)
	for _, part := range e.Parts {
		text.WriteString(shown(part))
	}
	return text.String() + ")"
}

// units makes a word of letters: small ones are points of the class Other, great ones classes, ! is a bad unit.
func units(letters string) []api.Kind {
	var word []api.Kind
	for _, c := range letters {
		switch {
		case c == '!':
			word = append(word, api.Kind{Class: api.Other, Point: api.Bad})
		case c <= 'Z':
			word = append(word, api.Kind{Class: string(c), Point: 0x4E00 + int(c)})
		default:
			word = append(word, api.Kind{Class: api.Other, Point: int(c)})
		}
	}
	return word
}

// words is all words of up to so many of these letters.
func words(letters string, most int) []string {
	all := []string{""}
	for from := 0; most > 0; most-- {
		level := all[from:]
		from = len(all)
		for _, w := range level {
			for _, c := range letters {
				all = append(all, w+string(c))
			}
		}
	}
	return all
}

var nameShape = regexp.MustCompile(`\A[A-Za-z][A-Za-z0-9_]{0,31}\z`)

// setAfterWords: may a set be, after the page: by sorting and by a table of the edges?
func setAfterWords(s api.Set) bool {
	for _, name := range s.Names {
		if !nameShape.MatchString(name) {
			return false
		}
	}
	if !slices.IsSorted(s.Names) || len(slices.Compact(slices.Clone(s.Names))) != len(s.Names) {
		return false
	}
	ends := []int{-2}
	for _, r := range s.Points {
		if r.Low > r.High {
			return false
		}
		ends = append(ends, r.Low, r.High)
	}
	for i := 1; i < len(ends); i += 2 {
		if ends[i]-ends[i-1] < 2 {
			return false
		}
	}
	return ends[len(ends)-1] <= 0x10FFFF
}

func isZeroSet(s api.Set) bool { return !s.Not && len(s.Names)+len(s.Points) == 0 }

// placed is a node and how deep it is.
type placed struct {
	e    api.Expr
	deep int
}

// nodeFault is the fault of a node alone, after the chapter's list, without ErrMany.
func nodeFault(e api.Expr) error {
	partKinds := map[int]int{}
	for _, part := range e.Parts {
		partKinds[part.Kind]++
	}
	single := e.Kind == api.ExprStar || e.Kind == api.ExprPlus || e.Kind == api.ExprOpt
	switch {
	case !slices.Contains(kinds, e.Kind),
		e.Kind != api.ExprSet && !isZeroSet(e.Set),
		(e.Kind == api.ExprEmpty || e.Kind == api.ExprSet) && len(e.Parts) > 0,
		single && len(e.Parts) != 1,
		e.Kind == api.ExprSet && !setAfterWords(e.Set):
		return api.ErrArg
	case (e.Kind == api.ExprSeq || e.Kind == api.ExprAlt) && len(e.Parts) < 2,
		e.Kind == api.ExprSeq && partKinds[api.ExprSeq]+partKinds[api.ExprEmpty] > 0,
		e.Kind == api.ExprAlt && partKinds[api.ExprAlt] > 0:
		return api.ErrForm
	}
	return nil
}

// faultAfterWords is what Check answers after the chapter, by a list of nodes that are still to be met.
func faultAfterWords(e api.Expr) error {
	ahead := []placed{{e, 1}}
	met, spans := 0, 0
	for len(ahead) > 0 {
		at := ahead[len(ahead)-1]
		ahead = ahead[:len(ahead)-1]
		met++
		spans += len(at.e.Set.Names) + len(at.e.Set.Points)
		if met == 4001 || at.deep > 128 || spans > 65536 {
			return api.ErrMany
		}
		if err := nodeFault(at.e); err != nil {
			return err
		}
		for _, part := range slices.Backward(at.e.Parts) {
			ahead = append(ahead, placed{part, at.deep + 1})
		}
	}
	return nil
}

// sizeAfterWords counts all nodes, and then looks at the limit.
func sizeAfterWords(e api.Expr) int {
	count := 0
	for ahead := []api.Expr{e}; len(ahead) > 0; count++ {
		last := ahead[len(ahead)-1]
		ahead = append(ahead[:len(ahead)-1], last.Parts...)
	}
	return min(count, 4001)
}

// holdsAfterWords is what a set holds, after the page.
func holdsAfterWords(s api.Set, k api.Kind) bool {
	found := 0
	for _, name := range s.Names {
		if name == k.Class {
			found++
		}
	}
	for _, r := range s.Points {
		if k.Point != -1 && !(k.Point < r.Low || r.High < k.Point) {
			found++
		}
	}
	if s.Not {
		return found == 0
	}
	return found > 0
}

// matchAfterWords is what an expression matches, after the page, by all cuts of the word.
func matchAfterWords(e api.Expr, word []api.Kind) bool {
	switch e.Kind {
	case api.ExprEmpty:
		return len(word) == 0
	case api.ExprSet:
		return len(word) == 1 && holdsAfterWords(e.Set, word[0])
	case api.ExprSeq:
		return rowAfterWords(e.Parts, word)
	case api.ExprAlt:
		return slices.ContainsFunc(e.Parts, func(part api.Expr) bool { return matchAfterWords(part, word) })
	case api.ExprOpt:
		return len(word) == 0 || matchAfterWords(e.Parts[0], word)
	case api.ExprStar:
		return len(word) == 0 || repeatedAfterWords(e.Parts[0], word)
	case api.ExprPlus:
		return matchAfterWords(e.Parts[0], word) || repeatedAfterWords(e.Parts[0], word)
	}
	return false
}

func rowAfterWords(parts []api.Expr, word []api.Kind) bool {
	if len(parts) == 0 {
		return len(word) == 0
	}
	for cut := range len(word) + 1 {
		if matchAfterWords(parts[0], word[:cut]) && rowAfterWords(parts[1:], word[cut:]) {
			return true
		}
	}
	return false
}

// repeatedAfterWords: is a word that is not empty cut into words that are not empty, all of them matched? (Empty ones beside them change nothing.)
func repeatedAfterWords(e api.Expr, word []api.Kind) bool {
	for cut := 1; cut <= len(word); cut++ {
		if matchAfterWords(e, word[:cut]) && (cut == len(word) || repeatedAfterWords(e, word[cut:])) {
			return true
		}
	}
	return false
}

// drawn makes expressions by chance, with a fixed beginning.
type drawn struct{ *rand.Rand }

func newDrawn(seed int64) drawn { return drawn{rand.New(rand.NewSource(seed))} }

// set is one that may be, over the letters of the words of the tests.
func (d drawn) set() api.Expr {
	sets := []api.Expr{point('a'), point('b'), span('a', 'b'), class("A"), class("S"), class("A", "S"), class(api.Other), class(),
		of(api.Set{Not: true}), of(api.Set{Not: true, Names: []string{"A"}}), of(api.Set{Not: true, Points: span(1, 1, 'b', 'b', 'd', 'z').Set.Points}), of(api.Set{Names: []string{"S"}, Points: []api.Range{{Low: 'b', High: 'b'}}}), span(0, 0x10FFFF), span('a', 'a', 'c', 'd')}
	return sets[d.Intn(len(sets))]
}

// good is an expression that may be, at most so deep.
func (d drawn) good(deep int) api.Expr {
	if deep <= 1 || d.Intn(4) == 0 {
		if d.Intn(6) == 0 {
			return empty()
		}
		return d.set()
	}
	kind := kinds[2+d.Intn(5)]
	if kind != api.ExprSeq && kind != api.ExprAlt {
		return node(kind, d.good(deep-1))
	}
	e := node(kind)
	for len(e.Parts) < 2 || d.Intn(2) == 0 {
		part := d.good(deep - 1)
		if part.Kind != kind && (kind == api.ExprAlt || part.Kind != api.ExprEmpty) {
			e.Parts = append(e.Parts, part)
		}
	}
	return e
}

// any is an expression that may be or not: one node, at times two, is changed.
func (d drawn) any(deep int) api.Expr {
	e := d.good(deep)
	for range d.Intn(3) {
		d.spoil(&e)
	}
	return e
}

func (d drawn) spoil(e *api.Expr) {
	for len(e.Parts) > 0 && d.Intn(3) > 0 {
		e = &e.Parts[d.Intn(len(e.Parts))]
	}
	switch d.Intn(6) {
	case 0:
		e.Kind = d.Intn(10) - 1
	case 1:
		e.Set = d.set().Set
	case 2:
		e.Parts = append(e.Parts, d.good(2))
	case 3:
		e.Parts = e.Parts[:len(e.Parts)/2]
	case 4:
		e.Set.Names = append(e.Set.Names, []string{"A", "9", "", "Other", "A_b", "a-b", "\xff"}[d.Intn(7)])
	case 5:
		low := d.Intn(200) - 3
		e.Set.Points = append(e.Set.Points, api.Range{Low: low, High: low + d.Intn(5) - 1})
	}
}

func expectCheck(t *testing.T, promise string, e api.Expr, want error) {
	t.Helper()
	if err := expr.Check(e); err != want {
		t.Errorf("%s: Check(%.200s) = %v, want %v", promise, shown(e), err, want)
	}
}

func expectSize(t *testing.T, promise string, e api.Expr, want int) {
	t.Helper()
	if n := expr.Size(e); n != want {
		t.Errorf("%s: Size(%.200s) = %d, want %d", promise, shown(e), n, want)
	}
}

func expectSkip(t *testing.T, promise string, e api.Expr, skip api.Set, want api.Expr, wantErr error) {
	t.Helper()
	got, err := expr.Skip(e, skip)
	if shown(got) != shown(want) || err != wantErr {
		t.Errorf("%s: Skip(%.200s, %.200s) = %.200s, %v, want %.200s, %v", promise, shown(e), fmt.Sprint(skip), shown(got), err, shown(want), wantErr)
	}
}

func expectMatch(t *testing.T, promise string, e api.Expr, word []api.Kind, want bool) {
	t.Helper()
	if got := expr.Match(e, word); got != want {
		t.Errorf("%s: Match(%.300s, %.100s) = %v, want %v", promise, shown(e), fmt.Sprint(word), got, want)
	}
}

func TestP8_1_Examples(t *testing.T) {
	a, b := point('a'), point('b')
	noList := api.Set{Names: []string{}, Points: []api.Range{}}
	for _, e := range []api.Expr{
		empty(), a, seq(a, b), star(alt(a, b)), class(), class("A"), class(api.Other), class("A", "B"), class("A", "AA", "A_", "a"), span(0, 0), span(0, 0x10FFFF), span(1, 2, 4, 5), span(0, 0, 2, 2), span(0xD800, 0xDFFF), span(0x10FFFF, 0x10FFFF),
		of(api.Set{Not: true}), of(api.Set{Not: true, Names: []string{"A"}, Points: []api.Range{{Low: 1, High: 2}}}), of(noList),
		alt(empty(), empty()), star(empty()), plus(star(opt(plus(empty())))), seq(alt(a, seq(a, b)), star(seq(a, a))), alt(seq(a, alt(a, empty())), opt(alt(a, b))),
		{Kind: api.ExprEmpty, Set: noList, Parts: []api.Expr{}}, {Kind: api.ExprStar, Set: noList, Parts: []api.Expr{a}}, {Kind: api.ExprSet, Parts: []api.Expr{}},
		class(strings.Repeat("a", 32)), class("Z9_z"),
	} {
		expectCheck(t, "P8.1", e, nil)
	}
	for _, e := range []api.Expr{
		{}, {Kind: 8}, {Kind: -1}, {Kind: 1 << 40}, {Kind: 8, Parts: []api.Expr{a}}, node(api.ExprStar), node(api.ExprStar, a, b), node(api.ExprPlus), node(api.ExprPlus, a, b), node(api.ExprOpt), node(api.ExprOpt, a, a, a), node(api.ExprEmpty, a), node(api.ExprSet, a),
		class("B", "A"), class("A", "A"), class("9"), class(""), class("_A"), class("A-B"), class("A B"), class("A\x00"), class("\xffA"), class("A\xff"), class("é"), class("Aé"), class("@"), class("["), class("`"), class("{"), class("A", "B", "9"), class("a", "B"), class(strings.Repeat("a", 33)), class(strings.Repeat("a", 1<<20)), class("A/"), class("A:"),
		span(5, 4), span(1, 2, 3, 4), span(0, 0x110000), span(-1, 2), span(-2, -1), span(4, 5, 1, 2), span(1, 4, 4, 6), span(1, 4, 2, 3), span(1, 1, 1, 1), span(1, 2, 4, 3), span(0x110000, 0x110000), span(1, 1<<62), span(-1<<63, 1<<63-1), span(1<<63-1, 1<<63-1), span(0x10FFFF, 0x10FFFF, 0x110001, 0x110001),
	} {
		expectCheck(t, "P8.1", e, api.ErrArg)
	}
	for _, e := range []api.Expr{
		seq(), alt(), seq(a), alt(a), seq(a, empty()), seq(empty(), a), seq(empty(), empty()), seq(a, seq(a, b)), seq(seq(a, b), a), alt(a, alt(a, b)), alt(alt(a, b), b), star(seq(a)), opt(alt(a, seq(empty(), b))),
		{Kind: api.ExprSeq, Set: noList},
	} {
		expectCheck(t, "P8.1", e, api.ErrForm)
	}
}

// TestP8_1_Beside: a node that is no ExprSet has the zero Set.
func TestP8_1_Beside(t *testing.T) {
	for _, kind := range kinds {
		for _, s := range []api.Set{{Not: true}, {Names: []string{"A"}}, {Points: []api.Range{{Low: 1, High: 2}}}} {
			e := api.Expr{Kind: kind, Set: s}
			switch kind {
			case api.ExprSet:
				expectCheck(t, "P8.1", e, nil)
				continue
			case api.ExprSeq, api.ExprAlt:
				e.Parts = times(2, class("A"))
			case api.ExprStar, api.ExprPlus, api.ExprOpt:
				e.Parts = times(1, class("A"))
			}
			expectCheck(t, "P8.1", e, api.ErrArg)
			e.Set = api.Set{}
			expectCheck(t, "P8.1", e, nil)
		}
	}
}

// TestP8_1_First: the first fault that is met is told, at one node in the chapter's order.
func TestP8_1_First(t *testing.T) {
	a, wrong := class("A"), class("9")
	for _, c := range []struct {
		e    api.Expr
		want error
	}{
		{seq(wrong, seq(a, a)), api.ErrForm}, {seq(a, seq(wrong, a)), api.ErrForm}, {seq(alt(wrong, a), star(seq(a))), api.ErrArg}, {seq(star(seq(a)), wrong), api.ErrForm}, {alt(wrong, seq(a)), api.ErrArg}, {alt(seq(a), wrong), api.ErrForm}, {alt(seq(a, opt(wrong)), seq(a)), api.ErrArg},
		{api.Expr{Kind: api.ExprSeq, Set: a.Set}, api.ErrArg}, {api.Expr{Kind: api.ExprAlt, Set: a.Set, Parts: times(1, a)}, api.ErrArg},
		{api.Expr{Kind: 9, Set: many(65537)}, api.ErrMany}, {api.Expr{Kind: api.ExprSeq, Set: many(65537)}, api.ErrMany}, {api.Expr{Kind: api.ExprSeq, Set: many(65536)}, api.ErrArg}, {of(api.Set{Names: slices.Repeat([]string{"9"}, 65537)}), api.ErrMany}, {of(api.Set{Names: slices.Repeat([]string{"9"}, 65536)}), api.ErrArg},
		{seq(wrong, of(many(65537))), api.ErrArg}, {seq(of(many(65537)), wrong), api.ErrMany}, {seq(a, of(many(65537)), empty()), api.ErrForm},
		{alt(append(times(4000, a), wrong)...), api.ErrMany}, {alt(append(times(3998, a), wrong, wrong)...), api.ErrArg}, {alt(append(times(3998, a), seq(), a)...), api.ErrForm}, {alt(append(times(3999, a), wrong)...), api.ErrMany}, {alt(append(times(3999, a), seq())...), api.ErrMany},
		{seq(append(times(5000, a), empty())...), api.ErrForm}, {api.Expr{Kind: api.ExprStar, Parts: times(5000, a)}, api.ErrArg},
		{around(127, api.ExprStar, wrong), api.ErrArg}, {around(128, api.ExprStar, wrong), api.ErrMany}, {around(127, api.ExprOpt, seq(a)), api.ErrForm}, {around(126, api.ExprOpt, seq(around(1, api.ExprStar, a), wrong)), api.ErrMany}, {around(126, api.ExprOpt, seq(wrong, star(a))), api.ErrArg},
	} {
		expectCheck(t, "P8.1", c.e, c.want)
		if want := faultAfterWords(c.e); want != c.want {
			t.Errorf("the oracle says %v of %.200s, want %v", want, shown(c.e), c.want)
		}
	}
}

func TestP8_1_Limits(t *testing.T) {
	a := class("A")
	for _, kind := range []int{api.ExprStar, api.ExprPlus, api.ExprOpt} {
		expectCheck(t, "P8.1", around(127, kind, a), nil)
		expectCheck(t, "P8.1", around(128, kind, a), api.ErrMany)
		expectCheck(t, "P8.1", around(128, kind, empty()), api.ErrMany)
		expectCheck(t, "P8.1", around(50000, kind, a), api.ErrMany)
	}
	for _, kind := range []int{api.ExprSeq, api.ExprAlt} {
		expectCheck(t, "P8.1", node(kind, times(3999, a)...), nil)
		expectCheck(t, "P8.1", node(kind, times(4000, a)...), api.ErrMany)
		expectCheck(t, "P8.1", node(kind, times(1999, star(a))...), nil)
		expectCheck(t, "P8.1", node(kind, append(times(1999, star(a)), a)...), nil)
		expectCheck(t, "P8.1", node(kind, times(2000, star(a))...), api.ErrMany)
		expectCheck(t, "P8.1", node(kind, append(times(1999, star(a)), a, a)...), api.ErrMany)
	}
	for _, s := range []func(int) api.Set{many, manyNames} {
		expectCheck(t, "P8.1", of(s(65536)), nil)
		expectCheck(t, "P8.1", of(s(65537)), api.ErrMany)
		expectCheck(t, "P8.1", seq(of(s(32768)), of(s(32768))), nil)
		expectCheck(t, "P8.1", seq(of(s(32768)), of(s(32768)), point(1)), api.ErrMany)
		expectCheck(t, "P8.1", seq(of(s(32768)), of(s(32768)), class()), nil)
		expectCheck(t, "P8.1", alt(star(of(s(32768))), of(s(32768)), a), api.ErrMany)
	}
	both := api.Set{Names: manyNames(30000).Names, Points: many(35536).Points}
	expectCheck(t, "P8.1", of(both), nil)
	both.Names = manyNames(30001).Names
	expectCheck(t, "P8.1", of(both), api.ErrMany)
}

// TestP8_1_Small: all expressions of few nodes, made of a few parts that may be and may not be.
func TestP8_1_Small(t *testing.T) {
	leaves := []api.Expr{empty(), class("A"), class("9"), {}, {Kind: 8}}
	var level []api.Expr
	for kind := 0; kind <= 8; kind++ {
		level = append(level, node(kind))
		for _, x := range leaves {
			level = append(level, node(kind, x), api.Expr{Kind: kind, Set: api.Set{Not: true}, Parts: []api.Expr{x}})
			for _, y := range leaves {
				level = append(level, node(kind, x, y))
			}
		}
	}
	told := map[error]int{}
	ask := func(e api.Expr) {
		want := faultAfterWords(e)
		told[want]++
		expectCheck(t, "P8.1", e, want)
	}
	for _, x := range level {
		ask(x)
		for kind := api.ExprEmpty; kind <= api.ExprOpt; kind++ {
			ask(node(kind, x))
			for _, y := range []api.Expr{class("A"), class("9"), seq(class("A"), class("B")), seq(), opt(empty())} {
				ask(node(kind, x, y))
				ask(node(kind, y, x))
			}
		}
	}
	if told[nil] < 100 || told[api.ErrArg] < 100 || told[api.ErrForm] < 100 {
		t.Errorf("one-sided: %v", told)
	}
}

func TestP8_1_Samples(t *testing.T) {
	d := newDrawn(81)
	told := map[error]int{}
	for range 20000 {
		e := d.any(6)
		want := faultAfterWords(e)
		told[want]++
		expectCheck(t, "P8.1", e, want)
		expectSize(t, "P8.2", e, sizeAfterWords(e))
	}
	if told[nil] < 4000 || told[api.ErrArg] < 2000 || told[api.ErrForm] < 500 {
		t.Errorf("one-sided: %v", told)
	}
}

func TestP8_2_Size(t *testing.T) {
	a := class("A")
	for _, c := range []struct {
		e    api.Expr
		want int
	}{
		{api.Expr{}, 1}, {empty(), 1}, {a, 1}, {seq(a, a), 3}, {star(alt(a, seq(a, a))), 6}, {node(99, a, node(-1, a), a), 5}, {node(api.ExprEmpty, a), 2},
		{alt(times(3999, a)...), 4000}, {alt(times(4000, a)...), 4001}, {alt(times(4001, a)...), 4001}, {alt(times(100000, a)...), 4001}, {around(3999, api.ExprStar, a), 4000}, {around(4000, api.ExprStar, a), 4001}, {around(60000, api.ExprStar, a), 4001},
		{node(0, alt(times(1998, a)...), alt(times(1999, a)...)), 4000}, {node(0, alt(times(1999, a)...), alt(times(1999, a)...)), 4001}, {node(0, times(63, node(0, times(62, a)...))...), 3970}, {node(0, times(64, node(0, times(62, a)...))...), 4001}, {node(0, times(1000, node(0, times(1000, a)...))...), 4001},
	} {
		expectSize(t, "P8.2", c.e, c.want)
	}
}

func TestP8_3_Examples(t *testing.T) {
	a, b, A := point('a'), point('b'), class("A")
	not := of(api.Set{Not: true, Names: []string{"A"}, Points: []api.Range{{Low: 'a', High: 'b'}}})
	for _, c := range []struct {
		e       api.Expr
		yes, no []string
	}{
		{empty(), []string{""}, []string{"a", "!", "aa"}},
		{a, []string{"a"}, []string{"", "b", "aa", "A", "!"}},
		{A, []string{"A"}, []string{"", "a", "B", "AA"}},
		{seq(a, star(b)), []string{"a", "ab", "abbbbb"}, []string{"", "b", "aab", "aba"}},
		{alt(seq(a, b), empty()), []string{"", "ab"}, []string{"a", "b", "abab"}},
		{plus(alt(a, seq(b, b))), []string{"a", "bb", "abba", "bbbb"}, []string{"", "b", "ab", "bbb"}},
		{opt(seq(a, opt(b))), []string{"", "a", "ab"}, []string{"b", "abb", "aab"}},
		{star(star(a)), []string{"", "a", "aaa"}, []string{"b", "aab"}},
		{plus(plus(a)), []string{"a", "aaa"}, []string{"", "b"}}, {plus(opt(a)), []string{"", "a", "aaa"}, []string{"b"}}, {plus(empty()), []string{""}, []string{"a"}}, {star(empty()), []string{""}, []string{"a"}}, {opt(empty()), []string{""}, []string{"a"}},
		{seq(star(a), a, a), []string{"aa", "aaaa"}, []string{"", "a"}}, {seq(opt(a), opt(b), opt(a)), []string{"", "a", "b", "ab", "ba", "aa", "aba"}, []string{"bb", "aab", "abab"}},
		{star(seq(a, b)), []string{"", "ab", "abab"}, []string{"a", "aba", "ba"}}, {plus(seq(star(a), b)), []string{"b", "aab", "bb", "abab"}, []string{"", "a", "ba"}},
		{not, []string{"c", "B", "!"}, []string{"a", "b", "A", "", "cc"}}, {class(), nil, []string{"", "a", "A", "!"}}, {of(api.Set{Not: true}), []string{"a", "A", "!"}, []string{"", "aa"}},
		{class(api.Other), []string{"a", "b", "!"}, []string{"", "A"}}, {span(0, 0x10FFFF), []string{"a", "A"}, []string{"!", ""}}, {of(api.Set{Not: true, Points: []api.Range{{Low: 0, High: 0x10FFFF}}}), []string{"!"}, []string{"a", "A", ""}},
		{span('a', 'b', 'd', 'f', 'h', 'h', 'k', 'm'), []string{"a", "b", "d", "e", "f", "h", "k", "l", "m"}, []string{"c", "g", "i", "j", "n", "A", "!"}}, {class("B", "D", "F", "Other"), []string{"B", "D", "F", "a", "!"}, []string{"A", "C", "E", "G", "Z"}},
	} {
		for _, w := range c.yes {
			expectMatch(t, "P8.3", c.e, units(w), true)
		}
		for _, w := range c.no {
			expectMatch(t, "P8.3", c.e, units(w), false)
		}
		if got, want := expr.Empty(c.e), slices.Contains(c.yes, ""); got != want {
			t.Errorf("P8.3: Empty(%s) = %v", shown(c.e), got)
		}
	}
}

// TestP8_3_MayNotBe: such expressions match nothing, of whatever word.
func TestP8_3_MayNotBe(t *testing.T) {
	a := point('a')
	for _, e := range []api.Expr{{}, {Kind: 8}, seq(), alt(a), seq(a, empty()), star(seq(a)), alt(a, class("9")), opt(span(5, 4)), node(api.ExprOpt), node(api.ExprStar, a, a), {Kind: api.ExprEmpty, Set: api.Set{Not: true}}, {Kind: api.ExprSet, Set: a.Set, Parts: times(1, a)}, around(128, api.ExprStar, a), alt(append(times(4000, a), empty())...), alt(empty(), of(many(65537)))} {
		for _, w := range []string{"", "a", "aa"} {
			expectMatch(t, "P8.3", e, units(w), false)
		}
		if expr.Empty(e) {
			t.Errorf("P8.3: Empty(%.100s) = true", shown(e))
		}
		if got := expr.Reverse(e); shown(got) != shown(api.Expr{}) {
			t.Errorf("P8.4: Reverse(%.100s) = %.100s", shown(e), shown(got))
		}
	}
}

// TestP8_3_Samples holds Match against the page, on all short words.
func TestP8_3_Samples(t *testing.T) {
	d := newDrawn(83)
	all := words("abAS!", 3)
	yes, no := 0, 0
	for range 1500 {
		e := d.good(5)
		for _, w := range all {
			word := units(w)
			want := matchAfterWords(e, word)
			if want {
				yes++
			} else {
				no++
			}
			expectMatch(t, "P8.3", e, word, want)
			expectMatch(t, "P8.8", expr.Reverse(e), turned(word), want)
		}
		if got, want := expr.Empty(e), matchAfterWords(e, nil); got != want || got != expr.Match(e, nil) || got != expr.Match(e, []api.Kind{}) {
			t.Errorf("P8.8: Empty(%s) = %v, want %v", shown(e), got, want)
		}
	}
	if yes < 10000 || no < 10000 {
		t.Errorf("one-sided: %d yes, %d no", yes, no)
	}
}

func turned(word []api.Kind) []api.Kind {
	back := slices.Clone(word)
	slices.Reverse(back)
	return back
}

// TestP8_3_LongWords: words of many units, of two letters, by chance.
func TestP8_3_LongWords(t *testing.T) {
	d := newDrawn(84)
	yes := 0
	for range 4000 {
		e := d.good(4)
		var w strings.Builder
		for range 4 + d.Intn(6) {
			w.WriteByte("aabAS"[d.Intn(5)])
		}
		want := matchAfterWords(e, units(w.String()))
		if want {
			yes++
		}
		expectMatch(t, "P8.3", e, units(w.String()), want)
	}
	if yes < 200 {
		t.Errorf("one-sided: %d yes", yes)
	}
}

// TestP8_3_Greatest: expressions at the limits, stars of stars among them, are matched at once.
func TestP8_3_Greatest(t *testing.T) {
	a, b := point('a'), point('b')
	long := units(strings.Repeat("a", 2000))
	mixed := a
	for expr.Check(mixed) == nil {
		mixed = star(seq(opt(plus(alt(mixed, empty()))), star(a)))
	}
	mixed = mixed.Parts[0].Parts[0].Parts[0].Parts[0].Parts[0]
	for _, e := range []api.Expr{around(127, api.ExprStar, a), around(127, api.ExprPlus, a), around(126, api.ExprOpt, star(a)), around(125, api.ExprStar, alt(a, b)), mixed, star(seq(times(1998, opt(a))...)), star(alt(times(3998, a)...))} {
		expectMatch(t, "P8.3", e, long, true)
		expectMatch(t, "P8.3", e, append(slices.Clone(long), units("c")...), false)
	}
	row := seq(times(1999, opt(a))...)
	expectMatch(t, "P8.3", row, long[:1999], true)
	expectMatch(t, "P8.3", row, long, false)
	word := expr.Word(slices.Repeat([]int{'a'}, 3999))
	expectMatch(t, "P8.3", word, units(strings.Repeat("a", 3999)), true)
	expectMatch(t, "P8.3", word, units(strings.Repeat("a", 3998)), false)
	expectMatch(t, "P8.3", word, units(strings.Repeat("a", 3998)+"b"), false)
	great := star(of(many(65536)))
	even := slices.Repeat([]api.Kind{{Class: "A", Point: 0}, {Class: "A", Point: 131070}}, 50000)
	expectMatch(t, "P8.3", great, even, true)
	expectMatch(t, "P8.3", great, append(even, api.Kind{Class: "A", Point: 131071}), false)
}

// TestP8_3_Strange: points that no unit has lie in no range that may be; classes may be any text.
func TestP8_3_Strange(t *testing.T) {
	for _, p := range []int{-1, -2, 0x110000, 1 << 62, -1 << 63} {
		k := []api.Kind{{Class: "", Point: p}}
		expectMatch(t, "P8.3", span(0, 0x10FFFF), k, false)
		expectMatch(t, "P8.3", of(api.Set{Not: true, Points: span(0, 0x10FFFF).Set.Points}), k, true)
		expectMatch(t, "P8.3", class("A"), k, false)
	}
	expectMatch(t, "P8.3", class("A"), []api.Kind{{Class: "A", Point: api.Bad}}, true)
	expectMatch(t, "P8.3", class("A"), []api.Kind{{Class: "a", Point: 5}}, false)
}

func TestP8_4_Examples(t *testing.T) {
	a, b, c := point('a'), point('b'), class("C")
	for _, x := range []struct{ e, want api.Expr }{
		{empty(), empty()}, {a, a}, {alt(a, b), alt(a, b)}, {seq(a, plus(b)), seq(plus(b), a)}, {seq(a, b, c), seq(c, b, a)}, {star(seq(a, b)), star(seq(b, a))}, {seq(alt(seq(a, b), c), opt(seq(b, c, a))), seq(opt(seq(a, c, b)), alt(seq(b, a), c))}, {alt(empty(), seq(a, star(seq(b, c)))), alt(empty(), seq(star(seq(c, b)), a))},
		{of(api.Set{Not: true, Names: []string{"A", "B"}, Points: many(3).Points}), of(api.Set{Not: true, Names: []string{"A", "B"}, Points: many(3).Points})},
	} {
		if got := expr.Reverse(x.e); shown(got) != shown(x.want) {
			t.Errorf("P8.4: Reverse(%s) = %s, want %s", shown(x.e), shown(got), shown(x.want))
		}
	}
}

// reverseAfterWords writes the nodes of e with rows in the other order.
func reverseAfterWords(e api.Expr) api.Expr {
	var parts []api.Expr
	for _, part := range e.Parts {
		if e.Kind == api.ExprSeq {
			parts = append([]api.Expr{reverseAfterWords(part)}, parts...)
		} else {
			parts = append(parts, reverseAfterWords(part))
		}
	}
	return api.Expr{Kind: e.Kind, Set: e.Set, Parts: parts}
}

func TestP8_4_P8_8_Samples(t *testing.T) {
	d := newDrawn(88)
	other := 0
	for range 8000 {
		e := d.any(6)
		want := api.Expr{}
		if faultAfterWords(e) == nil {
			want = reverseAfterWords(e)
		}
		got := expr.Reverse(e)
		if shown(got) != shown(want) {
			t.Errorf("P8.4: Reverse(%s) = %s, want %s", shown(e), shown(got), shown(want))
		}
		if want.Kind != 0 && shown(expr.Reverse(got)) != shown(e) {
			t.Errorf("P8.8: Reverse of Reverse of %s is another", shown(e))
		}
		if shown(got) != shown(e) {
			other++
		}
	}
	if other < 1500 {
		t.Errorf("one-sided: %d changed", other)
	}
}

func TestP8_5_Examples(t *testing.T) {
	a, b, A, S := point('a'), point('b'), class("A"), class("S")
	trail := star(S)
	for _, c := range []struct{ e, want api.Expr }{
		{empty(), empty()}, {A, seq(A, trail)}, {class(), seq(class(), trail)}, {S, seq(S, trail)}, {star(empty()), star(empty())}, {alt(empty(), a), alt(empty(), seq(a, trail))}, {opt(a), opt(seq(a, trail))}, {star(a), star(seq(a, trail))}, {plus(a), plus(seq(a, trail))},
		{seq(A, opt(a), b), seq(A, trail, opt(seq(a, trail)), b, trail)}, {alt(A, a), alt(seq(A, trail), seq(a, trail))}, {star(alt(seq(a, b), empty())), star(alt(seq(a, trail, b, trail), empty()))},
		{seq(a, plus(seq(b, a)), alt(a, opt(A))), seq(a, trail, plus(seq(b, trail, a, trail)), alt(seq(a, trail), opt(seq(A, trail))))}, {seq(star(a), star(b)), seq(star(seq(a, trail)), star(seq(b, trail)))},
	} {
		expectSkip(t, "P8.5", c.e, S.Set, c.want, nil)
	}
	nothing := api.Set{}
	expectSkip(t, "P8.5", a, nothing, seq(a, star(class())), nil)
	all := api.Set{Not: true, Names: []string{"A"}, Points: []api.Range{{Low: 1, High: 2}}}
	expectSkip(t, "P8.5", a, all, seq(a, star(of(all))), nil)
}

func TestP8_5_Refusals(t *testing.T) {
	a, S := point('a'), class("S").Set
	for _, skip := range []api.Set{{Names: []string{"B", "A"}}, {Names: []string{"9"}}, {Not: true, Names: []string{"A", "A"}}, {Points: []api.Range{{Low: 5, High: 4}}}, {Points: []api.Range{{Low: 1, High: 2}, {Low: 3, High: 4}}}, {Points: []api.Range{{Low: 0, High: 0x110000}}}} {
		expectSkip(t, "P8.5", a, skip, api.Expr{}, api.ErrArg)
		expectSkip(t, "P8.5", empty(), skip, api.Expr{}, api.ErrArg)
		expectSkip(t, "P8.5", seq(a), skip, api.Expr{}, api.ErrForm)
		expectSkip(t, "P8.5", api.Expr{}, skip, api.Expr{}, api.ErrArg)
		expectSkip(t, "P8.5", alt(times(4000, a)...), skip, api.Expr{}, api.ErrMany)
		expectSkip(t, "P8.5", alt(times(3999, a)...), skip, api.Expr{}, api.ErrArg)
	}
	expectSkip(t, "P8.5", seq(a), S, api.Expr{}, api.ErrForm)
	expectSkip(t, "P8.5", class("9"), S, api.Expr{}, api.ErrArg)
	expectSkip(t, "P8.5", around(128, api.ExprStar, a), S, api.Expr{}, api.ErrMany)
}

// TestP8_5_Limits: e may be, and what becomes of it is at the limit, or one past it.
func TestP8_5_Limits(t *testing.T) {
	a, S := point('a'), class("S")
	trail := star(S)
	fine := func(e, want api.Expr) { t.Helper(); expectSkip(t, "P8.5", e, S.Set, want, nil) }
	over := func(e api.Expr, skip api.Set) {
		t.Helper()
		expectCheck(t, "P8.1", e, nil)
		expectSkip(t, "P8.5", e, skip, api.Expr{}, api.ErrMany)
	}
	var long []api.Expr
	for range 1333 {
		long = append(long, a, trail)
	}
	fine(seq(times(1333, a)...), seq(long...))
	over(seq(times(1334, a)...), S.Set)
	fine(alt(append(times(999, a), star(empty()), empty())...), alt(append(times(999, seq(a, trail)), star(empty()), empty())...))
	over(alt(append(times(999, a), star(empty()), empty(), empty())...), S.Set)
	fine(around(125, api.ExprPlus, a), around(125, api.ExprPlus, seq(a, trail)))
	over(around(126, api.ExprPlus, a), S.Set)
	fine(around(127, api.ExprOpt, empty()), around(127, api.ExprOpt, empty()))
	fine(around(125, api.ExprOpt, seq(a, a)), around(125, api.ExprOpt, seq(a, trail, a, trail)))
	over(around(126, api.ExprOpt, seq(a, a)), S.Set)

	half := many(32767)
	expectSkip(t, "P8.5", seq(a, a), half, seq(a, star(of(half)), a, star(of(half))), nil)
	over(seq(a, a), many(32768))
	expectSkip(t, "P8.5", class(), many(65536), seq(class(), star(of(many(65536)))), nil)
	over(a, many(65536))
	over(class(), many(65537))
	over(of(manyNames(65536)), S.Set)
	expectSkip(t, "P8.5", of(manyNames(65535)), S.Set, seq(of(manyNames(65535)), trail), nil)
	// No set, so the great one is put nowhere.
	expectSkip(t, "P8.5", opt(empty()), many(100000), opt(empty()), nil)
	// It would fill the memory, were it copied ahead of being counted.
	over(seq(times(3999, a)...), many(api.MaxPoint/2))
}

// skipAfterWords is e with trail behind each set, written from the leaves upwards: a pair in a row is laid open.
func skipAfterWords(e, trail api.Expr) api.Expr {
	if e.Kind == api.ExprSet {
		return seq(e, trail)
	}
	woven := api.Expr{Kind: e.Kind}
	for _, part := range e.Parts {
		inner := skipAfterWords(part, trail)
		if e.Kind == api.ExprSeq && inner.Kind == api.ExprSeq {
			woven.Parts = append(woven.Parts, inner.Parts...)
		} else {
			woven.Parts = append(woven.Parts, inner)
		}
	}
	return woven
}

func TestP8_5_Samples(t *testing.T) {
	d := newDrawn(85)
	told := map[error]int{}
	for range 8000 {
		e, skip := d.any(6), d.set()
		if d.Intn(5) == 0 {
			d.spoil(&skip)
		}
		err := faultAfterWords(e)
		if err == nil && !setAfterWords(skip.Set) {
			err = api.ErrArg
		}
		want := api.Expr{}
		if err == nil {
			want = skipAfterWords(e, star(of(skip.Set)))
		}
		told[err]++
		expectSkip(t, "P8.5", e, skip.Set, want, err)
	}
	if told[nil] < 1500 || told[api.ErrArg] < 800 || told[api.ErrForm] < 200 {
		t.Errorf("one-sided: %v", told)
	}
}

func TestP8_6_Word(t *testing.T) {
	a, b := point('a'), point('b')
	for _, c := range []struct {
		points []int
		want   api.Expr
	}{
		{nil, empty()}, {[]int{}, empty()}, {[]int{'a'}, a}, {[]int{'a', 'b'}, seq(a, b)}, {[]int{'b', 'b', 'a'}, seq(b, b, a)}, {[]int{-5}, point(-5)}, {[]int{0x110000, 'a'}, seq(point(0x110000), a)}, {[]int{-1 << 63, 1<<63 - 1}, seq(point(-1<<63), point(1<<63-1))}, {slices.Repeat([]int{'a'}, 9000), seq(times(9000, a)...)},
	} {
		if got := expr.Word(c.points); shown(got) != shown(c.want) {
			t.Errorf("P8.6: Word(%.100s) = %.200s, want %.200s", fmt.Sprint(c.points), shown(got), shown(c.want))
		}
	}
	for _, points := range [][]int{{}, {0}, {0x10FFFF}, {0xD800, 0xDFFF}, slices.Repeat([]int{7}, 3999)} {
		expectCheck(t, "P8.6", expr.Word(points), nil)
	}
	for _, points := range [][]int{{-1}, {0x110000}, {'a', 'b', -1}, {api.Bad, 'a'}} {
		expectCheck(t, "P8.6", expr.Word(points), api.ErrArg)
	}
	expectCheck(t, "P8.6", expr.Word(slices.Repeat([]int{7}, 4000)), api.ErrMany)
}

func TestP8_7_Holds(t *testing.T) {
	expect := func(s api.Set, class string, point int, want bool) {
		t.Helper()
		if got := expr.Holds(s, api.Kind{Class: class, Point: point}); got != want {
			t.Errorf("P8.7: Holds(%v, %q %x) = %v", s, class, point, got)
		}
	}
	all := span(0, 0x10FFFF).Set
	for _, p := range []int{api.Bad, 0, 'a', 0x10FFFF, 0x110000, -2} {
		expect(api.Set{}, "A", p, false)
		expect(api.Set{Not: true}, "A", p, true)
		expect(class("A").Set, "A", p, true)
		expect(class("A").Set, "a", p, false)
		expect(class("A", "B", "C").Set, "C", p, true)
		expect(api.Set{Not: true, Names: []string{"A"}}, "A", p, false)
		expect(api.Set{Not: true, Names: []string{"A"}}, "B", p, true)
	}
	expect(class(api.Other).Set, api.Other, api.Bad, true)
	expect(all, api.Other, api.Bad, false)
	expect(api.Set{Not: true, Points: all.Points}, api.Other, api.Bad, true)
	expect(all, "A", 0, true)
	expect(all, "A", 0x10FFFF, true)
	expect(all, "A", 0x110000, false)
	expect(api.Set{Names: []string{"A"}, Points: all.Points}, "A", api.Bad, true)
	for p, want := range map[int]bool{4: false, 5: true, 7: true, 9: true, 10: false, 11: false, 12: true, 13: false} {
		expect(span(5, 9, 12, 12).Set, "A", p, want)
		expect(api.Set{Not: true, Points: span(5, 9, 12, 12).Set.Points}, "A", p, !want)
	}
	// Sets that may not be.
	expect(class("B", "A", "B").Set, "A", 5, true)
	expect(class("", "\xff").Set, "", 5, true)
	expect(class("", "\xff").Set, "\xff", 5, true)
	expect(span(20, 30, 1, 9, 5, 40).Set, "A", 3, true)
	expect(span(20, 30, 1, 9, 5, 40).Set, "A", 35, true)
	expect(span(9, 5).Set, "A", 7, false)
	expect(span(-9, 9).Set, "A", api.Bad, false)
	expect(span(-9, 9).Set, "A", -2, true)
	expect(span(-1, -1).Set, "A", -1, false)
	expect(api.Set{Not: true, Points: span(-9, 9).Set.Points}, "A", api.Bad, true)
	expect(span(0, 1<<62).Set, "A", 0x110000, true)
	expect(span(-1<<63, 1<<63-1).Set, "A", 1<<63-1, true)
}

func TestP8_7_Samples(t *testing.T) {
	d := newDrawn(87)
	yes := 0
	for range 50000 {
		s := d.set()
		d.spoil(&s)
		d.spoil(&s)
		k := api.Kind{Class: []string{"A", "S", "9", "", api.Other}[d.Intn(5)], Point: d.Intn(210) - 5}
		want := holdsAfterWords(s.Set, k)
		if want {
			yes++
		}
		if got := expr.Holds(s.Set, k); got != want {
			t.Errorf("P8.7: Holds(%v, %v) = %v", s.Set, k, got)
		}
	}
	if yes < 5000 || yes > 45000 {
		t.Errorf("one-sided: %d yes", yes)
	}
}

// TestP8_9_Word: Word matches its points alone, of whatever classes.
func TestP8_9_Word(t *testing.T) {
	letters := []int{0, 'a', 'b', 0x10FFFF}
	var lists [][]int
	for n := range 4 {
		count := 1
		for range n {
			count *= len(letters)
		}
		for i := range count {
			var list []int
			for range n {
				list = append(list, letters[i%len(letters)])
				i /= len(letters)
			}
			lists = append(lists, list)
		}
	}
	for i, points := range lists {
		e := expr.Word(points)
		for j, other := range lists {
			var word []api.Kind
			for at, p := range other {
				word = append(word, api.Kind{Class: []string{"A", api.Other, ""}[(i+j+at)%3], Point: p})
			}
			expectMatch(t, "P8.9", e, word, slices.Equal(points, other))
			for at := range word {
				bad := slices.Clone(word)
				bad[at].Point = api.Bad
				expectMatch(t, "P8.9", e, bad, false)
			}
		}
	}
}

// skippedAfterWords is P8.10: are there units to be taken away, the first one not among them?
func skippedAfterWords(e api.Expr, skip api.Set, word []api.Kind) bool {
	if len(word) == 0 {
		return matchAfterWords(e, nil)
	}
	for taken := range 1 << (len(word) - 1) {
		left := []api.Kind{word[0]}
		fine := true
		for i, unit := range word[1:] {
			if taken>>i&1 == 0 {
				left = append(left, unit)
			} else {
				fine = fine && holdsAfterWords(skip, unit)
			}
		}
		if fine && matchAfterWords(e, left) {
			return true
		}
	}
	return false
}

func TestP8_10_Examples(t *testing.T) {
	S := class("S").Set
	for _, c := range []struct {
		e       api.Expr
		yes, no []string
	}{
		{seq(class("A"), point('a')), []string{"Aa", "ASSaS", "ASaSS"}, []string{"", "SAa", "ASSS", "AaS!", "Sa"}}, {star(point('a')), []string{"", "a", "aS", "aSaS"}, []string{"S", "Sa"}}, {empty(), []string{""}, []string{"S", "a"}}, {class("S"), []string{"S", "SS", "SSS"}, []string{"", "aS"}}, {seq(class("S"), point('a')), []string{"Sa", "SSa", "SSaS"}, []string{"aS", "SS"}},
	} {
		e, err := expr.Skip(c.e, S)
		if err != nil {
			t.Errorf("P8.10: Skip(%s): %v", shown(c.e), err)
		}
		for _, w := range c.yes {
			expectMatch(t, "P8.10", e, units(w), true)
		}
		for _, w := range c.no {
			expectMatch(t, "P8.10", e, units(w), false)
		}
	}
}

func TestP8_10_Samples(t *testing.T) {
	d := newDrawn(810)
	all := words("abS!", 3)
	yes, more := 0, 0
	for range 800 {
		e, skip := d.good(4), d.set().Set
		long, err := expr.Skip(e, skip)
		if err != nil {
			t.Errorf("P8.10: Skip(%s): %v", shown(e), err)
		}
		for _, w := range all {
			want := skippedAfterWords(e, skip, units(w))
			if want {
				yes++
			}
			if want && !matchAfterWords(e, units(w)) {
				more++
			}
			expectMatch(t, "P8.10", long, units(w), want)
		}
	}
	if yes < 5000 || more < 1000 {
		t.Errorf("one-sided: %d yes, %d of them by skipping", yes, more)
	}
}

// TestP8_11_Rings: expressions that are parts of themselves are too deep, or have too many nodes.
func TestP8_11_Rings(t *testing.T) {
	for _, kind := range append(slices.Clone(kinds), 0, 8, -1) {
		for parts := 1; parts <= 3; parts++ {
			e := ring(kind, parts)
			if n := expr.Size(e); n != 4001 {
				t.Errorf("P8.2: Size of a ring: %d", n)
			}
			want := api.ErrArg
			switch {
			case kind == api.ExprSeq || kind == api.ExprAlt:
				want = api.ErrForm
			case (kind == api.ExprStar || kind == api.ExprPlus || kind == api.ExprOpt) && parts == 1:
				want = api.ErrMany
			}
			if err := expr.Check(e); err != want {
				t.Errorf("P8.1: Check of a ring of kind %d with %d parts: %v, want %v", kind, parts, err, want)
			}
			if _, err := expr.Skip(e, api.Set{}); err != want {
				t.Errorf("P8.5: Skip of a ring of kind %d with %d parts: %v, want %v", kind, parts, err, want)
			}
			if expr.Match(e, units("a")) || expr.Empty(e) || expr.Reverse(e).Kind != 0 {
				t.Errorf("P8.11: a ring of kind %d with %d parts matches", kind, parts)
			}
		}
	}
	// A row of stars of the row: each node is in form, and there is no end of them.
	row := []api.Expr{class("A"), star(class("B"))}
	row[1].Parts[0] = seq(row...)
	expectNoEnd := seq(row...)
	if err := expr.Check(expectNoEnd); err != api.ErrMany {
		t.Errorf("P8.1: Check of a ring of rows: %v", err)
	}
	if n := expr.Size(expectNoEnd); n != 4001 {
		t.Errorf("P8.2: Size of a ring of rows: %d", n)
	}
}

// roomy is e in lists that have room behind them, with something in it.
func roomy(e api.Expr) api.Expr {
	fresh := api.Expr{Kind: e.Kind, Set: roomySet(e.Set)}
	for _, part := range e.Parts {
		fresh.Parts = append(fresh.Parts, roomy(part))
	}
	fresh.Parts = append(fresh.Parts, node(77), node(78))[:len(e.Parts)]
	return fresh
}

func roomySet(s api.Set) api.Set {
	names := append(slices.Clone(s.Names), "room", "room")
	points := append(slices.Clone(s.Points), api.Range{Low: 70, High: 71}, api.Range{Low: 72, High: 73})
	return api.Set{Not: s.Not, Names: names[:len(s.Names)], Points: points[:len(s.Points)]}
}

// shownRoom tells what stands in all lists of e, and in the room behind them.
func shownRoom(e api.Expr) string {
	var text strings.Builder
	fmt.Fprintf(&text, "%d%v%q%v(", e.Kind, e.Set.Not, e.Set.Names[:cap(e.Set.Names)], e.Set.Points[:cap(e.Set.Points)])
	for _, part := range e.Parts[:cap(e.Parts)] {
		text.WriteString(shownRoom(part))
	}
	return text.String() + ")"
}

// spoilList writes into all of a list, and into the room behind it.
func spoilList[T any](list []T, with T) {
	for i := range list[:cap(list)] {
		list[:cap(list)][i] = with
	}
}

// spoilAll writes into all lists of e.
func spoilAll(e api.Expr) {
	for _, part := range e.Parts {
		spoilAll(part)
	}
	spoilList(e.Parts, node(99, node(98)))
	spoilList(e.Set.Names, "spoilt")
	spoilList(e.Set.Points, api.Range{Low: -7, High: -7})
}

// leafSets are the sets of e, one behind the other.
func leafSets(e api.Expr) []api.Set {
	list := []api.Set{e.Set}
	for _, part := range e.Parts {
		list = append(list, leafSets(part)...)
	}
	return list
}

func TestP8_11_Memory(t *testing.T) {
	d := newDrawn(811)
	for range 2000 {
		e, skip := roomy(d.good(5)), roomySet(d.set().Set)
		heldE, heldSkip := shownRoom(e), shownRoom(of(skip))
		word := append(units("abS"), units("!!")...)[:3]
		heldWord := fmt.Sprint(word[:cap(word)])
		back := expr.Reverse(e)
		long, err := expr.Skip(e, skip)
		if err != nil {
			t.Fatal(err)
		}
		expr.Check(e)
		expr.Size(e)
		expr.Empty(e)
		expr.Match(e, word)
		expr.Holds(skip, word[0])
		wantBack, wantLong := shown(back), shown(long)
		if shownRoom(e) != heldE || shownRoom(of(skip)) != heldSkip || fmt.Sprint(word[:cap(word)]) != heldWord {
			t.Fatalf("P8.11: an argument was changed: %s", heldE)
		}
		spoilAll(e)
		spoilAll(of(skip))
		if shown(back) != wantBack || shown(long) != wantLong {
			t.Fatalf("P8.11: an answer hangs on an argument: %s", heldE)
		}
		spoilAll(back)
		if shown(long) != wantLong {
			t.Fatalf("P8.11: an answer hangs on another: %s", heldE)
		}
	}
}

// TestP8_11_InnerLists: the sets of one answer share nothing with each other.
func TestP8_11_InnerLists(t *testing.T) {
	a := of(api.Set{Names: []string{"A", "B"}, Points: many(3).Points})
	skip := api.Set{Names: []string{"S", "T"}, Points: many(2).Points}
	row := seq(a, a, star(alt(a, a)))
	long, _ := expr.Skip(row, skip)
	answers := []api.Expr{long, expr.Reverse(row), expr.Word([]int{5, 5, 5})}
	for _, answer := range answers {
		sets := leafSets(answer)
		for i, s := range sets {
			others := fmt.Sprint(slices.Delete(slices.Clone(sets), i, i+1))
			spoilAll(of(s))
			if got := fmt.Sprint(slices.Delete(slices.Clone(sets), i, i+1)); got != others {
				t.Errorf("P8.11: sets of one answer share memory")
			}
		}
		held := shown(answer)
		for _, part := range answer.Parts {
			_ = append(part.Parts, node(99))
		}
		_ = append(answer.Parts, node(99))
		if shown(answer) != held {
			t.Errorf("P8.11: who appends to a list changes another")
		}
	}
	points := []int{1, 2, 3}
	word := expr.Word(points)
	points[0] = 9
	if shown(word) != shown(seq(point(1), point(2), point(3))) {
		t.Errorf("P8.11: Word keeps its points")
	}
	room := []int{1, 2, 3, 4}
	expr.Word(room[:2])
	if !slices.Equal(room, []int{1, 2, 3, 4}) {
		t.Errorf("P8.11: Word writes into the room behind its points")
	}
}

// TestP8_11_Same: the same call gives the same answer (P0.2).
func TestP8_11_Same(t *testing.T) {
	d := newDrawn(812)
	for range 500 {
		e, skip, word := d.any(5), d.set().Set, units("abA")
		first, firstErr := expr.Skip(e, skip)
		second, secondErr := expr.Skip(e, skip)
		if shown(first) != shown(second) || firstErr != secondErr || expr.Check(e) != expr.Check(e) || expr.Match(e, word) != expr.Match(e, word) || shown(expr.Reverse(e)) != shown(expr.Reverse(e)) {
			t.Errorf("P0.2: two answers of %s", shown(e))
		}
	}
}
