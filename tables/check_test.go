package tables_test

import (
	"bytes"
	"math"
	"slices"
	"strings"
	"testing"

	"caesura/api"
	"caesura/tables"
)

// change is something done to tables.
type change struct {
	what string
	do   func(x *api.Tables)
}

// spoils: each of these, done to the greater tables, makes such as may not be.
func spoils(t *testing.T, all ...change) {
	t.Helper()
	for _, c := range all {
		x := greater()
		c.do(&x)
		wrong(t, c.what, x)
		if mayBe(x) {
			t.Errorf("%s: such tables may be", c.what)
		}
	}
}

// keeps: each of these makes others that may be.
func keeps(t *testing.T, all ...change) {
	t.Helper()
	for _, c := range all {
		x := greater()
		c.do(&x)
		good(t, c.what, x)
		if same(x, greater()) || !mayBe(x) {
			t.Errorf("%s: nothing is changed, or such tables may not be", c.what)
		}
	}
}

func TestP18_1_Examples(t *testing.T) {
	with := func(do func(x *api.Tables)) api.Tables {
		x := small()
		do(&x)
		return x
	}
	wrong(t, "the zero tables", api.Tables{})
	wrong(t, "Stray 1", with(func(x *api.Tables) { x.Stray = 1 }))
	wrong(t, "Symbols 2", with(func(x *api.Tables) { x.Symbols = 2 }))
	wrong(t, "Stray 1 and Symbols 2", with(func(x *api.Tables) { x.Stray, x.Symbols = 1, 2 }))
	good(t, "Stray 1, Symbols 2 and two columns", with(func(x *api.Tables) {
		x.Stray, x.Symbols, x.Plain.Left, x.Plain.Right = 1, 2, one(2), one(2)
	}))
	wrong(t, "one span", with(func(x *api.Tables) { x.Letters = []api.Span{{Low: 0, High: 0x10ffff}} }))
	wrong(t, "Names none", with(func(x *api.Tables) { x.Names = nil }))
	wrong(t, "Engine 3", with(func(x *api.Tables) { x.Engine = 3 }))
	wrong(t, "Before 1", with(func(x *api.Tables) { x.Before = 1 }))
	good(t, "Before 0", with(func(x *api.Tables) { x.Before = 0 }))
	wrong(t, "Trail 0", with(func(x *api.Tables) { x.Trail = list(0) }))
}

func TestP18_1_Classes(t *testing.T) {
	spoils(t,
		change{"no names", func(x *api.Tables) { x.Names = nil }},
		change{"no names and no spans", func(x *api.Tables) { x.Names, x.Spans = nil, nil }},
		change{"Other is missing", func(x *api.Tables) { x.Names = x.Names[1:] }},
		change{"Other is not the first", func(x *api.Tables) { x.Names = []string{"A", "Other", "B"} }},
		change{"Other twice", func(x *api.Tables) { x.Names[2] = "Other" }},
		change{"other", func(x *api.Tables) { x.Names[0] = "other" }},
		change{"an empty first name", func(x *api.Tables) { x.Names[0] = "" }},
		change{"an empty name", func(x *api.Tables) { x.Names[1] = "" }},
		change{"no name", func(x *api.Tables) { x.Names[2] = "9" }},
		change{"a name of 33 bytes", func(x *api.Tables) { x.Names[2] = strings.Repeat("n", 33) }},
		change{"a name twice", func(x *api.Tables) { x.Names[2] = "A" }},
		change{"a name without span", func(x *api.Tables) { x.Names = append(x.Names, "C") }},
		change{"a span without name", func(x *api.Tables) { x.Names = x.Names[:2] }},
		change{"no spans", func(x *api.Tables) { x.Spans = nil }},
		change{"a span of Other", func(x *api.Tables) { x.Spans[0].Name = 0 }},
		change{"a span of -1", func(x *api.Tables) { x.Spans[0].Name = -1 }},
		change{"a span of the least number", func(x *api.Tables) { x.Spans[0].Name = math.MinInt }},
		change{"a span of the greatest number", func(x *api.Tables) { x.Spans[0].Name = math.MaxInt }},
		change{"a span of a name too many", func(x *api.Tables) { x.Spans[0].Name = 3 }},
		change{"Low above High", func(x *api.Tables) { x.Spans[0].Low = 'e' }},
		change{"Low below 0", func(x *api.Tables) { x.Spans[0].Low = -1 }},
		change{"High above all", func(x *api.Tables) { x.Spans[2].High = 0x110000 }},
		change{"spans overlap", func(x *api.Tables) { x.Spans[0].High = 'd' }},
		change{"spans in another order", func(x *api.Tables) { slices.Reverse(x.Spans) }},
		change{"neighbours of one name", func(x *api.Tables) { x.Spans[1].Name, x.Spans[2].Name = 2, 1 }},
	)
	keeps(t,
		change{"Other alone", func(x *api.Tables) { x.Names, x.Spans = x.Names[:1], nil }},
		change{"a name of 32 bytes", func(x *api.Tables) { x.Names[2] = strings.Repeat("n", 32) }},
		change{"names like Other", func(x *api.Tables) { x.Names = []string{"Other", "other", "Other_"} }},
		change{"names the other way round", func(x *api.Tables) { x.Names = []string{"Other", "B", "A"} }},
		change{"all points", func(x *api.Tables) {
			x.Names, x.Spans = x.Names[:2], []api.Span{{Low: 0, High: 0x10ffff, Name: 1}}
		}},
		change{"one name with a gap between", func(x *api.Tables) {
			x.Names, x.Spans = x.Names[:2], []api.Span{{Low: 1, High: 1, Name: 1}, {Low: 3, High: 3, Name: 1}}
		}},
	)
}

func TestP18_1_Letters(t *testing.T) {
	spoils(t,
		change{"Symbols 0", func(x *api.Tables) { x.Symbols = 0 }},
		change{"Symbols below 0", func(x *api.Tables) { x.Symbols = -3 }},
		change{"Symbols 2", func(x *api.Tables) { x.Symbols = 2 }},
		change{"Symbols 4", func(x *api.Tables) { x.Symbols = 4 }},
		change{"no letters", func(x *api.Tables) { x.Letters = nil }},
		change{"no first span", func(x *api.Tables) { x.Letters = x.Letters[1:] }},
		change{"no last span", func(x *api.Tables) { x.Letters = x.Letters[:3] }},
		change{"one span too many", func(x *api.Tables) {
			x.Letters = append(x.Letters, api.Span{Low: 0x110000, High: 0x110000, Name: 1})
		}},
		change{"a span that is empty", func(x *api.Tables) {
			x.Letters = append(x.Letters, api.Span{Low: 0x110000, High: 0x10ffff, Name: 1})
		}},
		change{"the first Low is 1", func(x *api.Tables) { x.Letters[0].Low = 1 }},
		change{"the first Low is -1", func(x *api.Tables) { x.Letters[0].Low = -1 }},
		change{"a gap", func(x *api.Tables) { x.Letters[1].High = 'b' }},
		change{"an overlap", func(x *api.Tables) { x.Letters[1].High = 'd' }},
		change{"High below Low", func(x *api.Tables) { x.Letters[1].High = 0x60 }},
		change{"High far below Low", func(x *api.Tables) { x.Letters[1].High = math.MinInt }},
		change{"the last High too small", func(x *api.Tables) { x.Letters[3].High = 0x10fffe }},
		change{"the last High too great", func(x *api.Tables) { x.Letters[3].High = 0x110000 }},
		change{"the greatest High", func(x *api.Tables) { x.Letters[3].High = math.MaxInt }},
		change{"behind the greatest High", func(x *api.Tables) {
			x.Letters[3].High = math.MaxInt
			x.Letters = append(x.Letters, api.Span{Low: math.MinInt, High: 0x10ffff})
		}},
		change{"once round all numbers", func(x *api.Tables) {
			x.Letters[3].High = math.MaxInt
			x.Letters = append(x.Letters, api.Span{Low: math.MinInt, High: 0xd7ff, Name: 1}, api.Span{Low: 0xe000, High: 0x10ffff})
		}},
		change{"D800 is held", func(x *api.Tables) { x.Letters[2].High = 0xd800 }},
		change{"DFFF is held", func(x *api.Tables) { x.Letters[3].Low = 0xdfff }},
		change{"a span up to DFFF", func(x *api.Tables) { x.Letters[2].High = 0xdfff }},
		change{"a span over D800 to DFFF", func(x *api.Tables) { x.Letters = x.Letters[:3]; x.Letters[2].High = 0x10ffff }},
		change{"a span of D800 to DFFF alone", func(x *api.Tables) {
			x.Letters = slices.Insert(x.Letters, 3, api.Span{Low: 0xd800, High: 0xdfff, Name: 1})
		}},
		change{"D7FF is missing", func(x *api.Tables) { x.Letters[2].High = 0xd7fe }},
		change{"E000 is missing", func(x *api.Tables) { x.Letters[3].Low = 0xe001 }},
		change{"from D7FF on to D800", func(x *api.Tables) { x.Letters[3].Low = 0xd800 }},
		change{"spans in another order", func(x *api.Tables) { slices.Reverse(x.Letters) }},
		change{"neighbours of one symbol", func(x *api.Tables) { x.Letters[2].Name = 1 }},
		change{"neighbours of one symbol, cut", func(x *api.Tables) {
			x.Letters[2].High = 0xff
			x.Letters = slices.Insert(x.Letters, 3, api.Span{Low: 0x100, High: 0xd7ff})
		}},
	)
}

func TestP18_1_Numbers(t *testing.T) {
	spoils(t,
		change{"the first symbol is 1", func(x *api.Tables) { x.Letters[0].Name, x.Letters[1].Name = 1, 0 }},
		change{"a symbol is left out", func(x *api.Tables) { x.Letters[1].Name, x.Stray = 2, 1 }},
		change{"a symbol below 0", func(x *api.Tables) { x.Letters[2].Name = -1 }},
		change{"the least symbol", func(x *api.Tables) { x.Letters[2].Name = math.MinInt }},
		change{"the greatest symbol", func(x *api.Tables) { x.Letters[2].Name = math.MaxInt }},
		change{"one symbol too many", func(x *api.Tables) { x.Letters[2].Name = 2; x.Stray = 3 }},
		change{"Stray -1", func(x *api.Tables) { x.Stray = -1 }},
		change{"Stray 0", func(x *api.Tables) { x.Stray = 0 }},
		change{"Stray 3", func(x *api.Tables) { x.Stray = 3 }},
		change{"the least Stray", func(x *api.Tables) { x.Stray = math.MinInt }},
		change{"the greatest Stray", func(x *api.Tables) { x.Stray = math.MaxInt }},
	)
	keeps(t,
		change{"three symbols of letters", func(x *api.Tables) { x.Letters[2].Name = 2 }},
		change{"and Stray is the first of them", func(x *api.Tables) { x.Letters[2].Name, x.Stray = 2, 0 }},
		change{"a symbol that comes behind D7FF alone", func(x *api.Tables) { x.Letters[3].Name, x.Stray = 2, 1 }},
		change{"as many spans as can be near the gap", func(x *api.Tables) {
			x.Letters[2].High = 0xd7fe
			x.Letters = slices.Insert(x.Letters, 3, api.Span{Low: 0xd7ff, High: 0xd7ff, Name: 1}, api.Span{Low: 0xe000, High: 0xe000, Name: 1})
			x.Letters[5].Low = 0xe001
		}},
		change{"a span of the last point alone", func(x *api.Tables) {
			x.Letters[3].High = 0x10fffe
			x.Letters = append(x.Letters, api.Span{Low: 0x10ffff, High: 0x10ffff, Name: 2})
		}},
	)
}

// pairingSpoils are such as a pairing over three symbols may not be.
func pairingSpoils() []func(p *api.Pairing) {
	machines := []func(m *api.Machine){
		func(m *api.Machine) { *m = api.Machine{} },
		func(m *api.Machine) { m.Start = 1 },
		func(m *api.Machine) { m.Start = 2 },
		func(m *api.Machine) { m.Start = -1 },
		func(m *api.Machine) { m.Next = m.Next[:1] },
		func(m *api.Machine) { m.Out = m.Out[:1] },
		func(m *api.Machine) { m.Out = append(m.Out, nil) },
		func(m *api.Machine) { m.Next = append(m.Next, list(0, 0, 0)) },
		func(m *api.Machine) { m.Next[0][0] = 2 },
		func(m *api.Machine) { m.Next[1][2] = -1 },
		func(m *api.Machine) { m.Next[0] = list(0, 1) },
		func(m *api.Machine) { m.Next[1] = list(1, 1, 1, 1) },
		func(m *api.Machine) { m.Next[1] = nil },
		func(m *api.Machine) { m.Out[1] = list(3) },
		func(m *api.Machine) { m.Out[1] = list(-1) },
		func(m *api.Machine) { m.Out[1] = list(1, 0) },
		func(m *api.Machine) { m.Out[1] = list(1, 1) },
		func(m *api.Machine) { m.Out[1] = slices.Clone(m.Out[0]) },                                           // no word tells them apart
		func(m *api.Machine) { m.Next, m.Out = append(m.Next, list(0, 0, 0)), append(m.Out, list(0)) },       // a state that is not met
		func(m *api.Machine) { m.Next[0] = list(0, 0, 0) },                                                   // the second is not met
		func(m *api.Machine) { slices.Reverse(m.Next); slices.Reverse(m.Out); m.Start, m.Next[0][0] = 1, 0 }, // another order
		func(m *api.Machine) {
			m.Next, m.Out = lists(list(2, 1, 0), list(0, 0, 0), list(0, 0, 0)), lists(nil, list(0), list(1)) // met in another order
		},
	}
	var all []func(p *api.Pairing)
	for _, spoil := range machines {
		all = append(all, func(p *api.Pairing) { spoil(&p.Left) }, func(p *api.Pairing) { spoil(&p.Right) })
	}
	return append(all, func(p *api.Pairing) { *p = api.Pairing{} }, func(p *api.Pairing) { p.Breaks = nil }, func(p *api.Pairing) { p.Breaks = p.Breaks[:1] })
}

func TestP18_1_Pairings(t *testing.T) {
	for _, spoil := range pairingSpoils() {
		spoils(t, change{"the plain pairing", func(x *api.Tables) { spoil(&x.Plain) }}, change{"the merged pairing", func(x *api.Tables) { spoil(&x.Merged) }})
		spoils(t, change{"the plain pairing alone", func(x *api.Tables) {
			x.Engine, x.Merged, x.Before, x.Trail, x.Entries = api.Filtered, api.Pairing{}, -1, nil, nil
			spoil(&x.Plain)
		}})
	}
	keeps(t,
		change{"Else", func(x *api.Tables) { x.Plain.Else = true }},
		change{"Breaks", func(x *api.Tables) { x.Plain.Breaks[0] = true }},
		change{"more Breaks than patterns that end", func(x *api.Tables) { x.Plain.Breaks = append(x.Plain.Breaks, true, false) }},
		change{"a merged pairing that does not belong to the plain one", func(x *api.Tables) { x.Merged = api.Pairing{Left: one(3), Right: one(3)} }},
		change{"no rules", func(x *api.Tables) { x.Plain, x.Before = api.Pairing{Left: one(3), Right: one(3)}, 0 }},
	)
}

func TestP18_1_Engine(t *testing.T) {
	filtered := func(do func(p *api.Pairing)) func(x *api.Tables) {
		return func(x *api.Tables) {
			x.Engine, x.Merged = api.Filtered, api.Pairing{}
			do(&x.Merged)
		}
	}
	for _, engine := range []int{0, 3, 4, -1, -2, math.MaxInt, math.MinInt} {
		spoils(t, change{"an engine that is none", func(x *api.Tables) { x.Engine = engine }})
		spoils(t, change{"an engine that is none, and no merged pairing", func(x *api.Tables) { x.Engine, x.Merged = engine, api.Pairing{} }})
	}
	spoils(t,
		change{"Filtered with a merged pairing", func(x *api.Tables) { x.Engine = api.Filtered }},
		change{"Merged without one", func(x *api.Tables) { x.Merged = api.Pairing{} }},
		change{"Filtered, with Else", filtered(func(p *api.Pairing) { p.Else = true })},
		change{"Filtered, with Breaks", filtered(func(p *api.Pairing) { p.Breaks = []bool{false} })},
	)
	for _, m := range []api.Machine{{Start: 1}, {Start: -1}, {Next: lists(nil)}, {Out: lists(nil)}, one(3)} {
		spoils(t, change{"Filtered, with a left machine", filtered(func(p *api.Pairing) { p.Left = m })})
		spoils(t, change{"Filtered, with a right machine", filtered(func(p *api.Pairing) { p.Right = m })})
	}
	keeps(t,
		change{"Filtered", filtered(func(p *api.Pairing) {})},
		change{"Filtered, with empty lists", filtered(func(p *api.Pairing) {
			empty := api.Machine{Next: lists(), Out: lists()}
			*p = api.Pairing{Left: empty, Right: empty, Breaks: []bool{}}
		})},
	)
}

func TestP18_1_Suppressions(t *testing.T) {
	for _, before := range []int{-2, 3, 4, math.MaxInt, math.MinInt} {
		spoils(t, change{"Before", func(x *api.Tables) { x.Before = before }})
		spoils(t, change{"Before without entries", func(x *api.Tables) { x.Before, x.Trail, x.Entries = before, nil, nil }})
	}
	for _, trail := range lists(list(1, 0), list(1, 1), list(3), list(-1), list(0, 1, 2, 3), list(0, 2, 1), list(math.MinInt, 0), list(0, math.MaxInt), list(math.MaxInt, math.MinInt)) {
		spoils(t, change{"Trail", func(x *api.Tables) { x.Trail = trail }})
	}
	for _, entries := range [][]string{
		{"b", "a"}, {"a", "a"}, {""}, {"", "a"}, {"a", ""}, {"\xff"}, {"a\xff"}, {"\xe2\x82"}, {"\xed\xa0\x80"}, {"a", "b", "b"}, {"aa", "a"},
		{"é", "z"}, {strings.Repeat("a", 33)}, {strings.Repeat("é", 33)}, {strings.Repeat("\U0001f600", 33)}, {strings.Repeat("a", 1000000)}, {"a", "a\x80"},
	} {
		spoils(t, change{"Entries", func(x *api.Tables) { x.Entries = entries }})
	}
	spoils(t,
		change{"Before -1 with Trail and Entries", func(x *api.Tables) { x.Before = -1 }},
		change{"Before -1 with Trail", func(x *api.Tables) { x.Before, x.Entries = -1, nil }},
		change{"Before -1 with Entries", func(x *api.Tables) { x.Before, x.Trail = -1, nil }},
	)
	keeps(t,
		change{"Before -1", func(x *api.Tables) { x.Before, x.Trail, x.Entries = -1, nil, nil }},
		change{"Before -1, empty lists", func(x *api.Tables) { x.Before, x.Trail, x.Entries = -1, list(), []string{} }},
		change{"Before 0", func(x *api.Tables) { x.Before = 0 }},
		change{"Before 2", func(x *api.Tables) { x.Before = 2 }},
		change{"Before 0, nothing else", func(x *api.Tables) { x.Before, x.Trail, x.Entries = 0, nil, nil }},
		change{"all symbols in Trail", func(x *api.Tables) { x.Trail = list(0, 1, 2) }},
		change{"Trail without entries", func(x *api.Tables) { x.Entries = nil }},
		change{"entries without Trail", func(x *api.Tables) { x.Trail = nil }},
		change{"32 units", func(x *api.Tables) {
			x.Entries = []string{strings.Repeat("a", 32), strings.Repeat("é", 32), strings.Repeat("\U0001f600", 32)}
		}},
		change{"entries that hold others, by bytes", func(x *api.Tables) {
			x.Entries = []string{"\x00", "\x00\x00", " ", "A", "a", "aa", "a\u0301", "b", "é"}
		}},
		change{"letters that fold or join alike", func(x *api.Tables) { x.Entries = []string{"DR.", "Dr.", "e\u0301", "é"} }},
	)
}

// Before counts the plain pairing's rules, not the merged one's.
func TestP18_1_BeforePlain(t *testing.T) {
	spoils(t, change{"Before within the merged rules alone", func(x *api.Tables) { x.Before = 3 }})
	keeps(t, change{"Before above the merged rules", func(x *api.Tables) {
		x.Merged = api.Pairing{Left: one(3), Right: one(3)}
		x.Before = 2
	}})
}

// What may not be is not written; and its bytes, if somebody else writes them, are not read (unless they are those of other tables that may be: a merged pairing beside Filtered has none).
func TestP18_1_Samples(t *testing.T) {
	d := newDrawn(1831)
	spoilt := 0
	for range 30000 {
		x := d.tables()
		d.spoil(&x)
		may := mayBe(x)
		if err := tables.Check(x); (err == nil) != may || err != nil && err != api.ErrArg {
			t.Fatalf("P18.1: Check(%s): %v, may be: %v", brief(x), err, may)
		}
		p, err := tables.Save(x)
		if (err == nil) != may || err != nil && (err != api.ErrArg || p != nil) || may && !bytes.Equal(p, bytesOf(x)) {
			t.Fatalf("P18.2: Save(%s): %v, may be: %v", brief(x), err, may)
		}
		if may {
			continue
		}
		spoilt++
		if writable(x) {
			loads(t, bodyOf(x))
		}
	}
	if spoilt < 10000 {
		t.Errorf("only %d may not be", spoilt)
	}
}

// writable: do the machines have as many rows of Out as of Next, so that their bytes can be written down?
func writable(x api.Tables) bool {
	for _, m := range []api.Machine{x.Plain.Left, x.Plain.Right, x.Merged.Left, x.Merged.Right} {
		if len(m.Next) != len(m.Out) {
			return false
		}
	}
	return true
}

// near is a number near n, or one of the ends of all numbers.
func (d drawn) near(n int) int {
	return list(n-1, n+1, n+1, n-2, 0, 1, -1, math.MaxInt, math.MinInt)[d.Intn(9)]
}

func (d drawn) spoil(x *api.Tables) {
	switch d.Intn(9) {
	case 0:
		d.spoilSpans(x.Spans)
	case 1:
		x.Names[d.Intn(len(x.Names))] = []string{"", "Other", "A", "9", "C", "other"}[d.Intn(6)]
	case 2, 3:
		d.spoilSpans(x.Letters)
	case 4:
		n := []*int{&x.Symbols, &x.Stray, &x.Engine, &x.Before}[d.Intn(4)]
		*n = d.near(*n)
	case 5:
		d.spoilPairing(&x.Plain)
	case 6:
		d.spoilPairing(&x.Merged)
	case 7:
		x.Trail = append(x.Trail, d.near(x.Symbols-1))
	case 8:
		x.Entries = append(x.Entries, []string{"", "\xff", "zz", "a", "\U0010ffff", strings.Repeat("é", 31+d.Intn(4))}[d.Intn(6)])
	}
}

func (d drawn) spoilSpans(l []api.Span) {
	if len(l) == 0 {
		return
	}
	s := &l[d.Intn(len(l))]
	n := []*int{&s.Low, &s.High, &s.Name, &s.Name}[d.Intn(4)]
	*n = d.near(*n)
}

func (d drawn) spoilPairing(p *api.Pairing) {
	m := &p.Left
	if d.Intn(2) == 0 {
		m = &p.Right
	}
	if len(m.Next) == 0 {
		p.Else, m.Start = d.Intn(2) == 0, d.Intn(2)
		return
	}
	s := d.Intn(len(m.Next))
	switch d.Intn(6) {
	case 0:
		m.Start = d.near(m.Start)
	case 1, 2:
		c := d.Intn(len(m.Next[s]))
		m.Next[s][c] = d.near(m.Next[s][c])
	case 3:
		m.Out[s] = append(m.Out[s], d.near(len(p.Breaks)-1))
	case 4:
		p.Breaks = p.Breaks[:d.Intn(len(p.Breaks)+1)]
	case 5:
		m.Out = m.Out[:len(m.Out)-1]
	}
}
