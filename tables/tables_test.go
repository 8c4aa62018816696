package tables_test

import (
	"bytes"
	"math"
	"slices"
	"strings"
	"testing"

	"caesura/alphabet"
	"caesura/api"
	"caesura/codec"
	"caesura/merge"
	"caesura/pair"
	"caesura/propfile"
	"caesura/props"
	"caesura/rules"
	"caesura/tables"
	"caesura/units"
)

// one is a machine of one state, over so many symbols.
func one(symbols int) api.Machine {
	return api.Machine{Next: lists(make([]int, symbols)), Out: lists(nil)}
}

// small is the tables T of the chapter's examples.
func small() api.Tables {
	return api.Tables{
		Names: []string{"Other"}, Symbols: 1, Letters: []api.Span{{Low: 0, High: 0xd7ff}, {Low: 0xe000, High: 0x10ffff}},
		Plain: api.Pairing{Left: one(1), Right: one(1), Else: true}, Engine: api.Filtered, Before: -1,
	}
}

// paired is the plain pairing of greater: rule 0 fits behind the symbol 1, rule 1 ahead of the text's end alone.
func paired() api.Pairing {
	return api.Pairing{
		Left:   api.Machine{Next: lists(list(0, 1, 0), list(0, 1, 0)), Out: lists(list(1), list(0, 1))},
		Right:  api.Machine{Next: lists(list(1, 1, 1), list(1, 1, 1)), Out: lists(list(0, 1), list(0))},
		Breaks: []bool{false, true},
	}
}

// greater has all parts: three classes, three symbols (the last is the stray one's), both engines, entries.
func greater() api.Tables {
	merged := paired()
	merged.Breaks = append(merged.Breaks, false)
	merged.Right.Out[1] = list(0, 2)
	merged.Else = true
	return api.Tables{
		Names: []string{"Other", "A", "B"}, Spans: []api.Span{{Low: 'a', High: 'c', Name: 2}, {Low: 'd', High: 'd', Name: 1}, {Low: 0xd800, High: 0x10ffff, Name: 2}},
		Symbols: 3, Letters: []api.Span{{Low: 0, High: 0x60}, {Low: 'a', High: 'c', Name: 1}, {Low: 'd', High: 0xd7ff}, {Low: 0xe000, High: 0x10ffff}}, Stray: 2,
		Plain: paired(), Engine: api.Merged, Merged: merged,
		Before: 1, Trail: list(0, 2), Entries: []string{"Mr.", "z. B.", "é"},
	}
}

func saved(t *testing.T, x api.Tables) []byte {
	t.Helper()
	p, err := tables.Save(x)
	if err != nil {
		t.Fatalf("P18.2: Save(%s): %v", brief(x), err)
	}
	return p
}

// good: such tables may be, have the bytes that the chapter says, and are read again.
func good(t *testing.T, what string, x api.Tables) {
	t.Helper()
	if err := tables.Check(x); err != nil {
		t.Errorf("P18.1: %s: Check(%s): %v", what, brief(x), err)
		return
	}
	p := saved(t, x)
	if want := bytesOf(x); !bytes.Equal(p, want) {
		t.Errorf("P18.2: %s: Save(%s) = %s, want %s", what, brief(x), brief(p), brief(want))
	}
	y, err := tables.Load(p)
	if err != nil || !same(x, y) {
		t.Errorf("P18.4: %s: Load(Save(%s)) = %s, %v", what, brief(x), brief(y), err)
	}
}

// wrong: such tables may not be, and the bytes that they would have are refused, too.
func wrong(t *testing.T, what string, x api.Tables) {
	t.Helper()
	if err := tables.Check(x); err != api.ErrArg {
		t.Errorf("P18.1: %s: Check(%s): %v", what, brief(x), err)
	}
	if p, err := tables.Save(x); p != nil || err != api.ErrArg {
		t.Errorf("P18.2: %s: Save(%s): %d bytes, %v", what, brief(x), len(p), err)
	}
}

// unread: these bytes are refused so, and nothing is beside the error.
func unread(t *testing.T, what string, p []byte, want error) {
	t.Helper()
	x, err := tables.Load(p)
	if err != want || !same(x, api.Tables{}) {
		t.Errorf("P18.3: %s: Load(%s) = %s, %v, want %v", what, brief(p), brief(x), err, want)
	}
}

func TestP18_2_Examples(t *testing.T) {
	spans := []byte{0, 0xff, 0xaf, 3, 0, 0x80, 0xc0, 3, 0xff, 0xff, 0x43, 0}
	body := slices.Concat([]byte("CAESURA\x01\x01\x05Other\x00\x01\x02"), spans, []byte{0, 0, 1, 0, 0, 0, 1, 0, 0, 0, 1, 2, 0, 0, 0})
	sum := codec.Crc(body)
	want := append(body, byte(sum>>24), byte(sum>>16), byte(sum>>8), byte(sum))
	if p := saved(t, small()); !bytes.Equal(p, want) {
		t.Errorf("P18.2: Save(T) = %x, want %x", p, want)
	}
	good(t, "T", small())
	good(t, "the greater ones", greater())
}

func TestP18_3_Examples(t *testing.T) {
	unread(t, "none", nil, api.ErrShort)
	unread(t, "twelve zeros", make([]byte, 12), api.ErrText)
	unread(t, "the eight bytes and four zeros", []byte("CAESURA\x01\x00\x00\x00\x00"), api.ErrSum)
	unread(t, "the eight bytes alone, with their sum", sealed(nil), api.ErrForm)
	for _, x := range []api.Tables{small(), greater()} {
		body := bodyOf(x)
		for at := range len(body) + 1 {
			for b := range 256 {
				loads(t, slices.Insert(slices.Clone(body), at, byte(b)))
			}
		}
		unread(t, "one byte more behind", sealed(append(slices.Clone(body), 0)), api.ErrForm)
		unread(t, "one byte more ahead", sealed(append([]byte{0}, body...)), api.ErrForm)
	}
}

// The refusals stand in an order: the first that applies is told.
func TestP18_3_Order(t *testing.T) {
	p := saved(t, small())
	for n := range 12 {
		unread(t, "fewer than 12 bytes", p[:n], api.ErrShort)
		unread(t, "fewer than 12 bytes, all zero", make([]byte, n), api.ErrShort)
		unread(t, "fewer than 12 bytes of an empty body", sealed(nil)[:n], api.ErrShort)
	}
	for at := range 8 {
		q := bytes.Clone(p)
		q[at]++
		unread(t, "another mark", q, api.ErrText)
		q = sealed(nil)
		q[at] ^= 0x80
		unread(t, "another mark of twelve bytes", q, api.ErrText)
		whole := codec.Crc(q[:8])
		unread(t, "another mark with its sum", append(q[:8], byte(whole>>24), byte(whole>>16), byte(whole>>8), byte(whole)), api.ErrText)
	}
	for at := 8; at < len(p); at++ {
		q := bytes.Clone(p)
		q[at]++
		unread(t, "another byte", q, api.ErrSum)
	}
	n := len(p)
	unread(t, "the sum's lowest byte first", append(bytes.Clone(p[:n-4]), p[n-1], p[n-2], p[n-3], p[n-4]), api.ErrSum)
	unread(t, "the sum of the body without the mark", append(bytes.Clone(p[:n-4]), sumBytes(codec.Crc(p[8:n-4]))...), api.ErrSum)
}

func sumBytes(sum uint32) []byte {
	return []byte{byte(sum >> 24), byte(sum >> 16), byte(sum >> 8), byte(sum)}
}

// Every byte is turned to every other one; everything is cut off, and something is put behind, with a sum that fits or not.
func TestP18_4_Changed(t *testing.T) {
	for _, x := range []api.Tables{small(), greater()} {
		p := saved(t, x)
		body := p[8 : len(p)-4]
		for at := range p {
			want := api.ErrSum
			if at < 8 {
				want = api.ErrText
			}
			q := bytes.Clone(p)
			for range 255 {
				q[at]++
				unread(t, "a byte changed", q, want)
			}
			if _, err := tables.Load(p[:at]); err == nil {
				t.Errorf("P18.4: cut at %d", at)
			}
		}
		for n := range body {
			unread(t, "a body cut off", sealed(body[:n]), api.ErrForm)
		}
		for _, more := range []string{"\x00", "\x01", "\xff", "\x00\x00\x00\x00", string(p), string(body), strings.Repeat("\x00", 100)} {
			unread(t, "bytes behind", append(bytes.Clone(p), more...), api.ErrSum)
			unread(t, "bytes behind the body", sealed(append(bytes.Clone(body), more...)), api.ErrForm)
			unread(t, "bytes behind the sum, with one more", sealed(append(bytes.Clone(p[8:]), more...)), api.ErrForm)
		}
	}
}

// The numbers of a body in another form than the one, and truths that are neither 0 nor 1.
func TestP18_3_OneForm(t *testing.T) {
	for _, x := range []api.Tables{small(), greater()} {
		body := bodyOf(x)
		for at, b := range body {
			long := slices.Concat(body[:at], []byte{b | 0x80, 0}, body[at+1:])
			if b < 0x80 {
				unread(t, "a number with an empty group", sealed(long), api.ErrForm)
			}
		}
	}
	x := small()
	head := len(bodyOf(x)) - 5
	for _, truth := range [][]byte{{2}, {3}, {0x7f}, {0x81, 1}, {0x80, 2}, {0xff, 0xff, 0xff, 0xff, 0xff, 0xff, 0xff, 0xff, 0x7f}} {
		body := bodyOf(x)
		unread(t, "an Else of another number", sealed(slices.Concat(body[:head], truth, body[head+1:])), api.ErrForm)
		x.Plain.Breaks = []bool{true}
		body = bodyOf(x)
		unread(t, "a Break of another number", sealed(slices.Concat(body[:head], truth, body[head+1:])), api.ErrForm)
		x.Plain.Breaks = nil
	}
}

// Lengths beyond all that stands behind them: at each place of the body a number as great as there is.
func TestP18_5_GreatLengths(t *testing.T) {
	for _, x := range []api.Tables{small(), greater()} {
		body := bodyOf(x)
		for _, great := range []int{math.MaxInt, math.MaxInt - 1, 1 << 40, 1 << 31, 1 << 24, 70000, 16385} {
			var w written
			w.nums(great)
			for at := range body {
				unread(t, "a great number", sealed(slices.Concat(body[:at], w)), api.ErrForm)
				unread(t, "a great number and more behind", sealed(slices.Concat(body[:at], w, body[at:])), api.ErrForm)
				if body[at] < 0x80 && (at == 0 || body[at-1] < 0x80) {
					q := slices.Concat(body[:at], w, body[at+1:])
					loads(t, q)
				}
			}
		}
	}
}

func TestP18_4_Samples(t *testing.T) {
	d := newDrawn(184)
	met := map[string]api.Tables{}
	for range 3000 {
		x := d.tables()
		good(t, "drawn", x)
		p := string(saved(t, x))
		if y, ok := met[p]; ok && !same(x, y) {
			t.Errorf("P18.4: %s and %s have the same bytes", brief(x), brief(y))
		}
		met[p] = x
	}
}

// loads: is a body, with a sum that fits, read as the chapter says, and written back to the same bytes? It tells whether it is read at all.
func loads(t *testing.T, body []byte) bool {
	t.Helper()
	p := sealed(body)
	want, wantErr := loadedBy(body)
	x, err := tables.Load(p)
	if err != wantErr || !same(x, want) {
		t.Fatalf("P18.3: Load(%x) = %s, %v, want %s, %v", p, brief(x), err, brief(want), wantErr)
	}
	if err != nil {
		return false
	}
	if again := saved(t, x); !bytes.Equal(again, p) {
		t.Fatalf("P18.4: Save(Load(%x)) = %x", p, again)
	}
	return true
}

func TestP18_3_Samples(t *testing.T) {
	d := newDrawn(183)
	loaded := 0
	for range 60000 {
		loaded += number(loads(t, d.spoilt(bodyOf(d.tables()))))
	}
	if loaded < 1000 {
		t.Errorf("only %d of the bodies were read", loaded)
	}
}

// spoilt changes a body at one place, or at two.
func (d drawn) spoilt(body []byte) []byte {
	body = slices.Clone(body)
	for range 1 + d.Intn(2) {
		at := d.Intn(len(body))
		switch d.Intn(6) {
		case 0, 1:
			body[at]++
		case 2:
			body[at]--
		case 3:
			body[at] = byte(d.Intn(256))
		case 4:
			body = slices.Insert(body, at, byte(d.Intn(4)))
		case 5:
			body = slices.Delete(body, at, at+1)
		}
	}
	return body
}

// Bytes that are no tables at all.
func TestP18_5_AnyBytes(t *testing.T) {
	d := newDrawn(185)
	for range 20000 {
		p := make([]byte, d.Intn(60))
		for i := range p {
			p[i] = byte(d.Intn(256) >> d.Intn(8))
		}
		tables.Load(p)
		if _, err := tables.Load(sealed(p)); err != api.ErrForm {
			t.Errorf("P18.3: Load(sealed %x): %v", p, err)
		}
	}
	unread(t, "a million zeros", sealed(make([]byte, 1000000)), api.ErrForm)
	unread(t, "a million ones", sealed(bytes.Repeat([]byte{1}, 1000000)), api.ErrForm)
	unread(t, "a million bytes of no end", sealed(bytes.Repeat([]byte{0xff}, 1000000)), api.ErrForm)
}

// What the layers below make of files may be.
func TestP18_1_OfFiles(t *testing.T) {
	file := "0041..005A ; Upper\n0061..007A ; Lower\n002E ; ATerm\n0020 ; Sp\n1F600;Face"
	text := "suppress Sp\nA: ATerm Sp* >< Lower\nB: ATerm >< Sp\nC: ATerm Sp+ >< Sp\nD: ATerm Sp* <>\nF: ^ Face <> Face $\nelse ><"
	property, _, err := propfile.Parse(file)
	if err != nil {
		t.Fatal(err)
	}
	r, _, err := rules.Parse(text)
	if err != nil {
		t.Fatal(err)
	}
	for _, entries := range [][]string{nil, {"Mr."}, {"Dr.", "Mr.", "e.g.", "z. B.", "é"}} {
		for _, suppress := range []int{0, 2, 5, -1} {
			r.Suppress = suppress
			if suppress < 0 {
				entries, r.Trail = nil, api.Set{}
			}
			for _, budget := range []int{0, 10000} {
				x := tablesOf(t, property, r, entries, budget)
				good(t, "of files", x)
				if (x.Engine == api.Merged) != (budget > 0) {
					t.Errorf("P18.1: the engine %d", x.Engine)
				}
			}
		}
		r, _, _ = rules.Parse(text)
	}
}

func tablesOf(t *testing.T, property api.Property, r api.Rules, entries []string, budget int) api.Tables {
	t.Helper()
	x := api.Tables{Engine: api.Filtered, Before: r.Suppress, Entries: entries, Spans: slices.Clone(property.Spans)}
	for i := range x.Spans {
		x.Spans[i].Name++
	}
	classes, err := props.New(property)
	stop(t, err)
	x.Names = classes.Names()
	var points [][]int
	for _, e := range entries {
		var l []int
		for _, u := range units.Split(e) {
			l = append(l, u.Point)
		}
		points = append(points, l)
	}
	a, err := alphabet.New(classes, alphabet.Sets(r, points))
	stop(t, err)
	x.Symbols = a.Symbols()
	x.Letters, x.Stray = a.Tables()
	x.Plain, err = pair.Of(r, nil, a, 2*api.MaxStates)
	stop(t, err)
	if r.Suppress >= 0 {
		x.Trail, err = a.Letters(r.Trail)
		stop(t, err)
	}
	merged, ok, err := merge.Of(r, points, a, budget)
	stop(t, err)
	if ok {
		x.Engine, x.Merged = api.Merged, merged
	}
	return x
}

func stop(t *testing.T, err error) {
	t.Helper()
	if err != nil {
		t.Fatal(err)
	}
}
