package places_test

import (
	"math/rand"
	"slices"
	"testing"

	"caesura/alphabet"
	"caesura/api"
	"caesura/expr"
	"caesura/places"
	"caesura/units"
)

func made(t *testing.T, e api.Expr, x *alphabet.Alphabet) api.Positions {
	t.Helper()
	p, err := places.Of(e, x)
	if err != nil {
		t.Fatalf("P11.1: Of(%s): %v", brief(e), err)
	}
	return p
}

func refused(t *testing.T, what string, e api.Expr, x *alphabet.Alphabet, want error) {
	t.Helper()
	if p, err := places.Of(e, x); !same(p, api.Positions{}) || err != want {
		t.Errorf("P11.1: Of(%s) = %s, %v, want no positions, %v", what, brief(p), err, want)
	}
}

// against holds Of against the chapter's words.
func against(t *testing.T, e api.Expr, x *alphabet.Alphabet) api.Positions {
	t.Helper()
	p, want := made(t, e, x), expected(t, e, x)
	if !same(p, want) {
		t.Fatalf("P11.1: Of(%s) = %s, want %s", brief(e), brief(p), brief(want))
	}
	if err := places.Check(p, x.Symbols()); err != nil {
		t.Fatalf("P11.5: Check(Of(%s)): %v", brief(e), err)
	}
	return p
}

func TestP11_1_Examples(t *testing.T) {
	x := alphabetOf(t, a, b, neither, none)
	l := func(n ...int) []int { return n }
	ll := func(n ...[]int) [][]int { return n }
	for i, c := range []struct {
		e    api.Expr
		want api.Positions
	}{
		{empty, api.Positions{Empty: true}},
		{a, api.Positions{Letters: ll(l(1)), First: l(0), Last: l(0), Follow: ll(nil)}},
		{none, api.Positions{Letters: ll(nil), First: l(0), Last: l(0), Follow: ll(nil)}},
		{seq(a, star(b)), api.Positions{Letters: ll(l(1), l(2)), First: l(0), Last: l(0, 1), Follow: ll(l(1), l(1))}},
		{star(alt(a, b)), api.Positions{Letters: ll(l(1), l(2)), First: l(0, 1), Last: l(0, 1), Follow: ll(l(0, 1), l(0, 1)), Empty: true}},
		{seq(opt(a), opt(b)), api.Positions{Letters: ll(l(1), l(2)), First: l(0, 1), Last: l(0, 1), Follow: ll(l(1), nil), Empty: true}},
		{neither, api.Positions{Letters: ll(l(0)), First: l(0), Last: l(0), Follow: ll(nil)}},
		{plus(opt(a)), api.Positions{Letters: ll(l(1)), First: l(0), Last: l(0), Follow: ll(l(0)), Empty: true}},
		{plus(a), api.Positions{Letters: ll(l(1)), First: l(0), Last: l(0), Follow: ll(l(0))}},
		{star(a), api.Positions{Letters: ll(l(1)), First: l(0), Last: l(0), Follow: ll(l(0)), Empty: true}},
		{opt(a), api.Positions{Letters: ll(l(1)), First: l(0), Last: l(0), Follow: ll(nil), Empty: true}},
		{alt(empty, a), api.Positions{Letters: ll(l(1)), First: l(0), Last: l(0), Follow: ll(nil), Empty: true}},
		{alt(a, b), api.Positions{Letters: ll(l(1), l(2)), First: l(0, 1), Last: l(0, 1), Follow: ll(nil, nil)}},
		{seq(b, opt(a), star(a), b), api.Positions{Letters: ll(l(2), l(1), l(1), l(2)), First: l(0), Last: l(3), Follow: ll(l(1, 2, 3), l(2, 3), l(2, 3), nil)}},
		{star(empty), api.Positions{Empty: true}},
	} {
		if p := against(t, c.e, x); !same(p, c.want) {
			t.Errorf("P11.1: case %d: %v, want %v", i, p, c.want)
		}
	}
}

func TestP11_1_WhatCheckRefuses(t *testing.T) {
	x := alphabetOf(t, a, b)
	deep := a
	for range 128 {
		deep = star(deep)
	}
	wide := of(api.Set{})
	for i := range 65537 {
		wide.Set.Points = append(wide.Set.Points, api.Range{Low: 2 * i, High: 2 * i})
	}
	for _, c := range []struct {
		what string
		e    api.Expr
		want error
	}{
		{"zero", api.Expr{}, api.ErrArg},
		{"Kind 8", node(8), api.ErrArg},
		{"Kind -1", node(-1, a, b), api.ErrArg},
		{"star of two", node(api.ExprStar, a, b), api.ErrArg},
		{"star of none", node(api.ExprStar), api.ErrArg},
		{"set with parts", api.Expr{Kind: api.ExprSet, Parts: []api.Expr{a}}, api.ErrArg},
		{"a set that may not be", of(api.Set{Points: []api.Range{{Low: 2, High: 1}}}), api.ErrArg},
		{"a sequence of one", seq(a), api.ErrForm},
		{"alternatives of none", alt(), api.ErrForm},
		{"alternatives in alternatives", alt(a, alt(a, b)), api.ErrForm},
		{"4001 nodes", alt(many(4000, a)...), api.ErrMany},
		{"129 deep", deep, api.ErrMany},
		{"65537 ranges", wide, api.ErrMany},
		{"a lost set ahead of a fault", seq(upper, seq(a, b)), api.ErrForm},
		{"a lost set ahead of a kind that is none", alt(upper, api.Expr{}), api.ErrArg},
	} {
		refused(t, c.what, c.e, x, c.want)
	}
}

func TestP11_1_Lost(t *testing.T) {
	x := alphabetOf(t, a, b, all)
	for _, c := range []struct {
		what string
		e    api.Expr
	}{
		{"a set alone", upper},
		{"the last of a sequence", seq(a, b, star(upper))},
		{"behind too many that follow", seq(star(alt(many(1100, a)...)), upper)},
		{"ahead of too many that follow", seq(upper, star(alt(many(1100, a)...)))},
		{"both points of two sets", of(api.Set{Points: []api.Range{{Low: 'a', High: 'b'}}})},
	} {
		refused(t, c.what, c.e, x, api.ErrLost)
	}
}

// full is an alphabet of 16384 symbols, of which all holds every one.
func full(t *testing.T) *alphabet.Alphabet {
	t.Helper()
	l := []api.Expr{all, a}
	for k := range 14 {
		var s api.Set
		for low := 1 << k; low < 1<<14; low += 2 << k {
			s.Points = append(s.Points, api.Range{Low: low, High: low + 1<<k - 1})
		}
		l = append(l, of(s))
	}
	x := alphabetOf(t, l...)
	if x.Symbols() != api.MaxSymbols {
		t.Fatalf("%d symbols", x.Symbols())
	}
	return x
}

func TestP11_1_MaxCells(t *testing.T) {
	x := full(t)
	p := made(t, alt(many(256, all)...), x)
	if len(p.Letters) != 256 || len(p.Letters[0]) != 16384 || len(p.Letters[255]) != 16384 {
		t.Errorf("P11.1: 4194304 letters: %d lists", len(p.Letters))
	}
	if err := places.Check(p, api.MaxSymbols); err != nil {
		t.Errorf("P11.2: 4194304 letters: %v", err)
	}
	refused(t, "4194305 letters", alt(append(many(256, all), a)...), x, api.ErrMany)
	refused(t, "the small set first", alt(append([]api.Expr{a}, many(256, all)...)...), x, api.ErrMany)
	refused(t, "3999 sets of all symbols", alt(many(3999, all)...), x, api.ErrMany)
	refused(t, "a lost set behind too many letters", alt(append(many(257, all), upper)...), x, api.ErrLost)
}

func TestP11_1_MaxFollow(t *testing.T) {
	x := alphabetOf(t, a, b)
	p := made(t, star(alt(many(1024, a)...)), x)
	for place, l := range p.Follow {
		if len(l) != 1024 || l[0] != 0 || l[1023] != 1023 {
			t.Fatalf("P11.1: Follow of %d: %d places", place, len(l))
		}
	}
	if err := places.Check(p, 3); err != nil {
		t.Errorf("P11.2: 1048576 pairs: %v", err)
	}
	refused(t, "1048577 pairs", alt(star(alt(many(1024, a)...)), seq(a, b)), x, api.ErrMany)
	refused(t, "many more", star(alt(many(3998, a)...)), x, api.ErrMany)
	p = made(t, alt(star(alt(many(1024, a)...)), b), x)
	if len(p.Follow) != 1025 || len(p.Follow[1024]) != 0 {
		t.Error("P11.1: a place that nothing follows, beside 1048576 pairs")
	}
}

func TestP11_1_ManyPlaces(t *testing.T) {
	x := alphabetOf(t, a, b)
	p := made(t, alt(many(3999, a)...), x)
	if len(p.Letters) != 3999 || len(p.First) != 3999 || p.First[3998] != 3998 {
		t.Errorf("P11.1: %d places", len(p.Letters))
	}
	p = made(t, seq(many(3999, b)...), x)
	for place, l := range p.Follow {
		if place < 3998 && !slices.Equal(l, []int{place + 1}) || place == 3998 && len(l) > 0 {
			t.Fatalf("P11.1: %v follow %d", l, place)
		}
	}
	if !slices.Equal(p.First, []int{0}) || !slices.Equal(p.Last, []int{3998}) {
		t.Errorf("P11.1: First %v, Last %v", p.First, p.Last)
	}
	if !places.Match(p, slices.Repeat([]int{2}, 3999)) || places.Match(p, slices.Repeat([]int{2}, 3998)) || places.Match(p, slices.Repeat([]int{2}, 4000)) {
		t.Error("P11.3: a long word")
	}
}

// Sets of places of more than one word, and of more than one block of them.
func TestP11_1_WideSamples(t *testing.T) {
	x := alphabetOf(t, a, b)
	for _, n := range []int{63, 64, 65, 127, 128, 129, 511, 512, 513, 700} {
		var chain []api.Expr
		for i := range n {
			switch {
			case i%7 == 3:
				chain = append(chain, opt(a))
			case i%11 == 5:
				chain = append(chain, plus(alt(a, b)))
			default:
				chain = append(chain, b)
			}
		}
		against(t, seq(chain...), x)
		against(t, plus(seq(alt(chain...), star(a))), x)
	}
	for _, n := range []int{64, 65, 513} {
		against(t, seq(many(n, opt(a))...), x)
		against(t, seq(append(many(n, star(b)), a)...), x)
	}
}

func TestP11_1_Deep(t *testing.T) {
	x := alphabetOf(t, a, b)
	e, f := a, seq(a, opt(b))
	for range 127 {
		e = star(e)
	}
	against(t, e, x)
	for range 60 {
		f = opt(seq(plus(f), b))
		if expr.Check(f) != nil {
			break
		}
		against(t, f, x)
	}
	g := alt(many(3800, a)...)
	for range 126 {
		g = opt(g)
	}
	if p := made(t, g, x); len(p.First) != 3800 || !p.Empty {
		t.Error("P11.1: many places, deep down")
	}
}

func TestP11_1_P11_5_Samples(t *testing.T) {
	random := rand.New(rand.NewSource(111))
	leaves := []api.Expr{a, b, upper, neither, all, none}
	x, table := alphabetOf(t, leaves...), table(t)
	texts := []string{"a", "b", "A", "C", "z", "\xff"}
	for range 4000 {
		e := someExpr(random, random.Intn(5), leaves)
		if err := expr.Check(e); err != nil {
			t.Fatalf("%s: %v", brief(e), err)
		}
		p, back := against(t, e, x), against(t, expr.Reverse(e), x)
		turned := places.Reverse(p)
		for range 12 {
			text := ""
			for range random.Intn(7) {
				text += texts[random.Intn(len(texts))]
			}
			var kinds []api.Kind
			list := units.Split(text)
			for _, u := range list {
				kinds = append(kinds, api.Kind{Class: table.Names()[table.Class(u.Point)], Point: u.Point})
			}
			word := x.Word(list)
			want := expr.Match(e, kinds)
			if got := places.Match(p, word); got != want {
				t.Fatalf("P11.5: Match(Of(%s), %q) = %v", brief(e), text, got)
			}
			if got := places.Match(turned, word); got != places.Match(back, word) {
				t.Fatalf("P11.5: Match(Reverse(Of(%s)), %q) = %v", brief(e), text, got)
			}
			slices.Reverse(word)
			if got := places.Match(turned, word); got != want {
				t.Fatalf("P11.6: Match(Reverse(Of(%s)), %q turned round) = %v", brief(e), text, got)
			}
		}
	}
}

// Rules as they are written have places that may be.
func TestP11_5_Skipped(t *testing.T) {
	x := alphabetOf(t, a, b, upper)
	e, err := expr.Skip(seq(a, opt(b), plus(alt(a, b))), upper.Set)
	if err != nil {
		t.Fatal(err)
	}
	p := against(t, e, x)
	for text, want := range map[string]bool{"aa": true, "aBCbAaA": true, "Aaa": false, "ab": true, "aA": false, "aAA": false, "abz": false} {
		if got := places.Match(p, x.Word(units.Split(text))); got != want {
			t.Errorf("P11.5: Match(%q) = %v", text, got)
		}
	}
}
