package tables_test

import (
	"encoding/binary"
	"fmt"
	"hash/crc32"
	"math/rand"
	"regexp"
	"slices"
	"unicode/utf8"

	"caesura/api"
	"caesura/minimal"
)

func list(n ...int) []int { return n }

func lists(n ...[]int) [][]int { return n }

// brief is a value as a text, cut off where it is long.
func brief(x any) string {
	s := fmt.Sprintf("%+v", x)
	return s[:min(len(s), 400)]
}

// same: are two tables the same? Lists that are nil and empty ones are.
func same(x, y api.Tables) bool {
	return slices.Equal(x.Names, y.Names) && slices.Equal(x.Spans, y.Spans) && x.Symbols == y.Symbols && slices.Equal(x.Letters, y.Letters) && x.Stray == y.Stray &&
		samePairing(x.Plain, y.Plain) && samePairing(x.Merged, y.Merged) && x.Engine == y.Engine && x.Before == y.Before && slices.Equal(x.Trail, y.Trail) && slices.Equal(x.Entries, y.Entries)
}

func samePairing(p, q api.Pairing) bool {
	return sameMachine(p.Left, q.Left) && sameMachine(p.Right, q.Right) && slices.Equal(p.Breaks, q.Breaks) && p.Else == q.Else
}

func sameMachine(m, n api.Machine) bool {
	return m.Start == n.Start && slices.EqualFunc(m.Next, n.Next, slices.Equal) && slices.EqualFunc(m.Out, n.Out, slices.Equal)
}

// written is the parts of tables, written down one by one as the chapter lists them; it asks nothing.
type written []byte

func (w *written) nums(l ...int) {
	for _, n := range l {
		*w = binary.AppendUvarint(*w, uint64(n))
	}
}

func (w *written) list(l []int) { w.nums(append(list(len(l)), l...)...) }

func (w *written) texts(l []string) {
	w.nums(len(l))
	for _, s := range l {
		w.nums(len(s))
		*w = append(*w, s...)
	}
}

func (w *written) spans(l []api.Span) {
	w.nums(len(l))
	for _, s := range l {
		w.nums(s.Low, s.High, s.Name)
	}
}

func (w *written) machine(m api.Machine) {
	w.nums(m.Start, len(m.Next))
	for s, next := range m.Next {
		w.nums(next...)
		w.list(m.Out[s])
	}
}

func number(b bool) int {
	if b {
		return 1
	}
	return 0
}

func (w *written) pairing(p api.Pairing) {
	w.machine(p.Left)
	w.machine(p.Right)
	w.nums(len(p.Breaks))
	for _, b := range p.Breaks {
		w.nums(number(b))
	}
	w.nums(number(p.Else))
}

// bodyOf is the bytes of tables without mark and sum.
func bodyOf(x api.Tables) []byte {
	var w written
	w.texts(x.Names)
	w.spans(x.Spans)
	w.nums(x.Symbols)
	w.spans(x.Letters)
	w.nums(x.Stray)
	w.pairing(x.Plain)
	w.nums(x.Engine)
	if x.Engine == api.Merged {
		w.pairing(x.Merged)
	}
	w.nums(x.Before + 1)
	w.list(x.Trail)
	w.texts(x.Entries)
	return w
}

// sealed is a body with the mark ahead of it and the right sum behind it.
func sealed(body []byte) []byte {
	p := append([]byte("CAESURA\x01"), body...)
	return binary.BigEndian.AppendUint32(p, crc32.ChecksumIEEE(p))
}

func bytesOf(x api.Tables) []byte { return sealed(bodyOf(x)) }

// taken takes a body apart without asking for the one form of anything; good says whether the bytes sufficed.
type taken struct {
	rest []byte
	good bool
}

func (r *taken) num() int {
	n, size := binary.Uvarint(r.rest)
	if size <= 0 || n > 1<<62 {
		r.rest, r.good = nil, false
		return 0
	}
	r.rest = r.rest[size:]
	return int(n)
}

// times does something so often, unless the bytes do not suffice.
func (r *taken) times(n int, do func()) {
	for i := 0; i < n && r.good; i++ {
		do()
	}
}

func (r *taken) nums(n int) (l []int) {
	r.times(n, func() { l = append(l, r.num()) })
	return l
}

func (r *taken) texts() (l []string) {
	r.times(r.num(), func() {
		n := r.num()
		if n > len(r.rest) {
			r.rest, r.good = nil, false
			return
		}
		l, r.rest = append(l, string(r.rest[:n])), r.rest[n:]
	})
	return l
}

func (r *taken) spans() (l []api.Span) {
	r.times(r.num(), func() { l = append(l, api.Span{Low: r.num(), High: r.num(), Name: r.num()}) })
	return l
}

func (r *taken) machine(symbols int) (m api.Machine) {
	m.Start = r.num()
	r.times(r.num(), func() {
		m.Next = append(m.Next, r.nums(symbols))
		m.Out = append(m.Out, r.nums(r.num()))
	})
	return m
}

func (r *taken) pairing(symbols int) (p api.Pairing) {
	p.Left, p.Right = r.machine(symbols), r.machine(symbols)
	for _, n := range r.nums(r.num()) {
		p.Breaks = append(p.Breaks, n != 0)
	}
	p.Else = r.num() != 0
	return p
}

// loadedBy is what Load of a sealed body should be: the tables that are taken out of it, if they may be and have just these bytes.
func loadedBy(body []byte) (api.Tables, error) {
	r := taken{body, true}
	var x api.Tables
	x.Names, x.Spans, x.Symbols, x.Letters, x.Stray = r.texts(), r.spans(), r.num(), r.spans(), r.num()
	x.Plain = r.pairing(x.Symbols)
	x.Engine = r.num()
	if x.Engine == api.Merged {
		x.Merged = r.pairing(x.Symbols)
	}
	x.Before = r.num() - 1
	x.Trail, x.Entries = r.nums(r.num()), r.texts()
	if !r.good || !mayBe(x) || !slices.Equal(bodyOf(x), body) {
		return api.Tables{}, api.ErrForm
	}
	return x, nil
}

// mayBe is Check by the chapter's words, each asked in the plainest way.
func mayBe(x api.Tables) bool {
	return classesBy(x) && lettersBy(x) && pairingBy(x.Plain, x.Symbols) && engineBy(x) && suppressionsBy(x)
}

var aName = regexp.MustCompile(`^[A-Za-z][A-Za-z0-9_]{0,31}$`)

func classesBy(x api.Tables) bool {
	if len(x.Names) == 0 || x.Names[0] != "Other" || len(x.Names) > 63 || len(x.Spans) > 65536 {
		return false
	}
	met := map[string]int{}
	for _, name := range x.Names {
		if met[name]++; !aName.MatchString(name) || met[name] > 1 {
			return false
		}
	}
	used := map[int]bool{}
	last := api.Span{High: -2}
	for _, s := range x.Spans {
		if s.Low < 0 || s.High > 0x10ffff || s.Low > s.High || s.Name < 1 || s.Name >= len(x.Names) || s.Low <= last.High || s.Low == last.High+1 && s.Name == last.Name {
			return false
		}
		used[s.Name], last = true, s
	}
	return len(used) == len(x.Names)-1
}

// lettersBy counts by how many spans each code point is held at which that can change.
func lettersBy(x api.Tables) bool {
	points := list(-1, 0, 0xd7ff, 0xd800, 0xdfff, 0xe000, 0x10ffff, 0x110000)
	for _, s := range x.Letters {
		points = append(points, s.Low-1, s.Low, s.High, s.High+1)
	}
	for _, point := range points {
		held := 0
		for _, s := range x.Letters {
			held += number(s.Low <= point && point <= s.High)
		}
		if held != number(point >= 0 && point < 0xd800 || point > 0xdfff && point <= 0x10ffff) {
			return false
		}
	}
	var names []int
	for i, s := range x.Letters {
		if s.Low > s.High || i > 0 && s.Low <= x.Letters[i-1].High || i > 0 && s.Low == x.Letters[i-1].High+1 && s.Name == x.Letters[i-1].Name {
			return false
		}
		names = append(names, s.Name)
	}
	return namesBy(append(names, x.Stray), x.Symbols)
}

// namesBy: is each number there already, or the least that is not, and are there so many?
func namesBy(names []int, symbols int) bool {
	for i, n := range names {
		if n < 0 || n > 0 && !slices.Contains(names[:i], n-1) {
			return false
		}
	}
	return symbols == slices.Max(names)+1 && symbols <= 16384
}

func pairingBy(p api.Pairing, symbols int) bool {
	return machineBy(p.Left, symbols, len(p.Breaks)) && machineBy(p.Right, symbols, len(p.Breaks))
}

func machineBy(m api.Machine, symbols, patterns int) bool {
	states := len(m.Next)
	if symbols < 1 || states < 1 || states > 16384 || states*symbols > 4194304 || len(m.Out) != states || m.Start != 0 {
		return false
	}
	for s := range states {
		if len(m.Next[s]) != symbols || slices.ContainsFunc(m.Next[s], func(n int) bool { return n < 0 || n >= states }) || !risesBelow(m.Out[s], patterns) {
			return false
		}
	}
	return meetsInOrder(m) && allApart(m)
}

func risesBelow(l []int, count int) bool {
	for i, n := range l {
		if n < 0 || n >= count || i > 0 && n <= l[i-1] {
			return false
		}
	}
	return true
}

func meetsInOrder(m api.Machine) bool {
	met := 1
	for s := 0; s < met; s++ {
		for _, n := range m.Next[s] {
			if n > met {
				return false
			}
			if n == met {
				met++
			}
		}
	}
	return met == len(m.Next)
}

// allApart: does some word tell each two states apart? Pairs are marked until no further one is.
func allApart(m api.Machine) bool {
	apart := map[[2]int]bool{}
	for again := true; again; {
		again = false
		for a := range m.Next {
			for b := range a {
				told := !slices.Equal(m.Out[a], m.Out[b])
				for c, n := range m.Next[a] {
					told = told || apart[[2]int{n, m.Next[b][c]}]
				}
				if told && !apart[[2]int{a, b}] {
					apart[[2]int{a, b}], apart[[2]int{b, a}], again = true, true, true
				}
			}
		}
	}
	return len(apart) == len(m.Next)*(len(m.Next)-1)
}

func engineBy(x api.Tables) bool {
	p := x.Merged
	none := len(p.Left.Next)+len(p.Left.Out)+len(p.Right.Next)+len(p.Right.Out)+len(p.Breaks) == 0 && p.Left.Start == 0 && p.Right.Start == 0 && !p.Else
	return x.Engine == api.Merged && pairingBy(p, x.Symbols) || x.Engine == api.Filtered && none
}

func suppressionsBy(x api.Tables) bool {
	if x.Before < -1 || x.Before > len(x.Plain.Breaks) || x.Before == -1 && len(x.Trail)+len(x.Entries) > 0 {
		return false
	}
	if !risesBelow(x.Trail, x.Symbols) || len(x.Entries) > 2000 {
		return false
	}
	for i, e := range x.Entries {
		if n := utf8.RuneCountInString(e); n < 1 || n > 32 || !utf8.ValidString(e) || i > 0 && x.Entries[i-1] >= e {
			return false
		}
	}
	return true
}

// drawn draws tables.
type drawn struct{ *rand.Rand }

func newDrawn(seed int64) drawn { return drawn{rand.New(rand.NewSource(seed))} }

// rising is some of the numbers from low to high, rising.
func (d drawn) rising(low, high, most int) (l []int) {
	for range d.Intn(most + 1) {
		l = append(l, low+d.Intn(high-low+1))
	}
	slices.Sort(l)
	return slices.Compact(l)
}

func (d drawn) machine(symbols, patterns int) api.Machine {
	states := 1 + d.Intn(5)
	m := api.Machine{Start: d.Intn(states)}
	for range states {
		next := make([]int, symbols)
		for c := range next {
			next[c] = d.Intn(states)
		}
		out := d.rising(0, patterns, 3)
		m.Next, m.Out = append(m.Next, next), append(m.Out, slices.DeleteFunc(out, func(n int) bool { return n == patterns }))
	}
	least, err := minimal.Of(m, symbols)
	if err != nil {
		panic(err)
	}
	return least
}

func (d drawn) pairing(symbols int) api.Pairing {
	p := api.Pairing{Breaks: make([]bool, d.Intn(4)), Else: d.Intn(2) == 0}
	for i := range p.Breaks {
		p.Breaks[i] = d.Intn(2) == 0
	}
	p.Left, p.Right = d.machine(symbols, len(p.Breaks)), d.machine(symbols, len(p.Breaks))
	return p
}

// classes draws spans between cuts; each name has one at least, and neighbours have unlike names.
func (d drawn) classes(x *api.Tables) {
	count := d.Intn(4)
	x.Names = append([]string{"Other"}, []string{"A", "b_9", "Sep"}[:count]...)
	cuts := slices.Concat(list(0), d.rising(1, 400, 6), list(0xd7ff, 0x10fff0, 0x110000))
	for i, low := range cuts[:min(len(cuts)-1, count*3)] {
		x.Spans = append(x.Spans, api.Span{Low: low, High: low + d.Intn(cuts[i+1]-low), Name: 1 + i%count})
		if d.Intn(2) == 0 && count > 1 {
			x.Spans[i].High = cuts[i+1] - 1
		}
		if count == 1 && i > 0 && x.Spans[i-1].High == low-1 {
			x.Spans[i-1].Low, x.Spans[i-1].High = low-1, low-2
		}
	}
	x.Spans = slices.DeleteFunc(x.Spans, func(s api.Span) bool { return s.High < s.Low })
}

func (d drawn) letters(x *api.Tables) {
	cuts := slices.Concat(d.rising(1, 0x300, 4), d.rising(0xd7f0, 0xd7ff, 1), list(0xe000), d.rising(0xe001, 0xe010, 1), d.rising(0xffff0, 0x10ffff, 2), list(0x110000))
	low, count := 0, 0
	for i, cut := range cuts {
		s := api.Span{Low: low, High: cut - 1, Name: d.Intn(count + 1)}
		if cut == 0xe000 {
			s.High = 0xd7ff
		}
		if i > 0 && low != 0xe000 && s.Name == x.Letters[i-1].Name {
			s.Name = (s.Name + 1) % (count + 1)
		}
		count = max(count, s.Name+1)
		x.Letters, low = append(x.Letters, s), cut
	}
	x.Stray = d.Intn(count + 1)
	x.Symbols = max(count, x.Stray+1)
}

// tables draws such as may be.
func (d drawn) tables() api.Tables {
	x := api.Tables{Engine: api.Filtered, Before: -1}
	d.classes(&x)
	d.letters(&x)
	x.Plain = d.pairing(x.Symbols)
	if d.Intn(2) == 0 {
		x.Engine, x.Merged = api.Merged, d.pairing(x.Symbols)
	}
	if d.Intn(4) > 0 {
		x.Before = d.Intn(len(x.Plain.Breaks) + 1)
		for _, symbol := range d.rising(0, x.Symbols-1, 3) {
			x.Trail = append(x.Trail, symbol)
		}
		for range d.Intn(5) {
			x.Entries = append(x.Entries, []string{"Mr.", "z. B.", "\u00e9", "\U0001f600.", "a", "\x00", "ab"}[d.Intn(7)])
		}
		slices.Sort(x.Entries)
		x.Entries = slices.Compact(x.Entries)
	}
	return x
}
