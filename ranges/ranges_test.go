package ranges_test

import (
	"math"
	"math/rand"
	"slices"
	"testing"

	"caesura/api"
	"caesura/ranges"
)

// list makes ranges of numbers two by two.
func list(n ...int) []api.Range {
	var l []api.Range
	for i := 0; i+1 < len(n); i += 2 {
		l = append(l, api.Range{Low: n[i], High: n[i+1]})
	}
	return l
}

// points is a set written out, point by point: an oracle that knows nothing of edges.
type points []bool

// all is how many points there are.
const all = 0x110000

// of is the set of a list whose points are below count.
func of(l []api.Range, count int) points {
	p := make(points, count)
	for _, r := range l {
		for n := r.Low; n <= r.High; n++ {
			p[n] = true
		}
	}
	return p
}

func (p points) list() []api.Range {
	var l []api.Range
	for n := 0; n < len(p); n++ {
		if !p[n] {
			continue
		}
		low := n
		for n+1 < len(p) && p[n+1] {
			n++
		}
		l = append(l, api.Range{Low: low, High: n})
	}
	return l
}

func (p points) count() int {
	count := 0
	for _, in := range p {
		if in {
			count++
		}
	}
	return count
}

type twoSets = func(a, b []api.Range) ([]api.Range, error)

// operations are the calls on two lists, each with what it asks of a point.
var operations = []struct {
	name string
	call twoSets
	want func(inA, inB bool) bool
}{
	{"Normal", func(a, _ []api.Range) ([]api.Range, error) { return ranges.Normal(a) }, func(inA, _ bool) bool { return inA }},
	{"Not", func(a, _ []api.Range) ([]api.Range, error) { return ranges.Not(a) }, func(inA, _ bool) bool { return !inA }},
	{"Union", ranges.Union, func(inA, inB bool) bool { return inA || inB }},
	{"Inter", ranges.Inter, func(inA, inB bool) bool { return inA && inB }},
	{"Minus", ranges.Minus, func(inA, inB bool) bool { return inA && !inB }},
}

func oracle(a, b points, want func(inA, inB bool) bool) points {
	p := make(points, len(a))
	for n := range p {
		p[n] = want(a[n], b[n])
	}
	return p
}

// small is every list of up to most ranges within 0 to high, in every order.
func small(high, most int) [][]api.Range {
	lists := [][]api.Range{nil}
	for done := 0; most > 0; most-- {
		upTo := len(lists)
		for _, l := range lists[done:upTo] {
			for low := range high + 1 {
				for end := low; end <= high; end++ {
					lists = append(lists, append(slices.Clone(l), api.Range{Low: low, High: end}))
				}
			}
		}
		done = upTo
	}
	return lists
}

// samples are lists that may be, with ends that meet, touch and overlap at both ends of the points and around the surrogates; the seed is fixed.
func samples(count int) [][]api.Range {
	chance := rand.New(rand.NewSource(3))
	near := []int{0, 0x41, 0xD800, 0xDFFF, 0xFFFF, 0x10FFFF}
	point := func() int {
		if chance.Intn(8) == 0 {
			return chance.Intn(all)
		}
		return min(max(0, near[chance.Intn(len(near))]+chance.Intn(9)-4), api.MaxPoint)
	}
	var lists [][]api.Range
	for range count {
		var l []api.Range
		for range chance.Intn(9) {
			low, high := point(), point()
			if chance.Intn(3) > 0 {
				high = min(low+chance.Intn(4), api.MaxPoint)
			}
			l = append(l, api.Range{Low: min(low, high), High: max(low, high)})
		}
		lists = append(lists, l)
	}
	return lists
}

// wrong are ranges that may not be.
func wrong() []api.Range {
	return list(5, 4, -1, 3, -1, -1, 0, 0x110000, 0x110000, 0x110000, 0x10FFFF, 0x110000, 1, 0, 0x10FFFF, 0,
		math.MinInt, math.MaxInt, math.MaxInt, math.MinInt, 0, math.MaxInt, math.MinInt, 0, math.MaxInt, math.MaxInt, math.MinInt, math.MinInt)
}

// wrongLists have a range that may not be alone, first, in the midst and last.
func wrongLists() [][]api.Range {
	var lists [][]api.Range
	for _, r := range wrong() {
		lists = append(lists, []api.Range{r}, []api.Range{r, {Low: 1, High: 2}, {Low: 9, High: 9}}, []api.Range{{Low: 1, High: 2}, r, {Low: 9, High: 9}}, []api.Range{{Low: 1, High: 2}, {Low: 9, High: 9}, r})
	}
	return lists
}

func check(t *testing.T, promise, name string, got []api.Range, err error, want []api.Range) {
	t.Helper()
	if err != nil || !slices.Equal(got, want) {
		t.Errorf("%s: %s = %v, %v, want %v", promise, name, got, err, want)
	}
}

func TestP3_1_Normal(t *testing.T) {
	for _, c := range []struct{ in, want []api.Range }{
		{nil, nil},
		{[]api.Range{}, nil},
		{list(0x41, 0x43, 0x44, 0x45), list(0x41, 0x45)},
		{list(0x41, 0x43, 0x45, 0x46), list(0x41, 0x43, 0x45, 0x46)},
		{list(0x45, 0x46, 0x41, 0x43), list(0x41, 0x43, 0x45, 0x46)},
		{list(0x50, 0x60, 0x41, 0x55, 0x41, 0x41), list(0x41, 0x60)},
		{list(7, 7, 7, 7, 7, 7), list(7, 7)},
		{list(9, 9, 8, 8, 7, 7), list(7, 9)},
		{list(1, 9, 2, 3, 5, 6), list(1, 9)},
		{list(1, 9, 2, 3, 5, 6, 11, 11), list(1, 9, 11, 11)},
		{list(0, 0), list(0, 0)},
		{list(0x10FFFF, 0x10FFFF), list(0x10FFFF, 0x10FFFF)},
		{list(0, 0x10FFFF, 5, 5), list(0, 0x10FFFF)},
		{list(0xD800, 0xDFFF, 0xE000, 0xE000, 0xD7FF, 0xD7FF), list(0xD7FF, 0xE000)},
	} {
		got, err := ranges.Normal(c.in)
		check(t, "P3.1", "Normal", got, err, c.want)
	}
	for _, l := range wrongLists() {
		if got, err := ranges.Normal(l); got != nil || err != api.ErrArg {
			t.Errorf("P3.1: Normal(%v) = %v, %v", l, got, err)
		}
	}
}

func TestP3_2_Has(t *testing.T) {
	for _, c := range []struct {
		in    []api.Range
		point int
		want  bool
	}{
		{list(0x50, 0x60), 0x4F, false},
		{list(0x50, 0x60), 0x50, true},
		{list(0x50, 0x60), 0x55, true},
		{list(0x50, 0x60), 0x60, true},
		{list(0x50, 0x60), 0x61, false},
		{list(9, 9, 1, 3), 1, true},
		{list(9, 9, 1, 3), 9, true},
		{list(9, 9, 1, 3), 5, false},
		{nil, 0, false},
		{list(5, 4), 5, false},
		{list(5, 4), 4, false},
		{list(5, 4, 4, 5), 4, true},
		{list(-9, 9), -1, true},
		{list(-9, -9), -9, true},
		{list(0, 0x110005), 0x110001, true},
		{list(0, 0x10FFFF), -1, false},
		{list(0, 0x10FFFF), 0x110000, false},
		{list(math.MinInt, math.MaxInt), math.MinInt, true},
		{list(math.MinInt, math.MaxInt), math.MaxInt, true},
		{list(math.MaxInt, math.MinInt), 0, false},
	} {
		if got := ranges.Has(c.in, c.point); got != c.want {
			t.Errorf("P3.2: Has(%v, %d) = %v", c.in, c.point, got)
		}
	}
}

func TestP3_2_HasOfSmallLists(t *testing.T) {
	for _, l := range small(4, 2) {
		held := of(l, 7)
		for n := range 7 {
			if got := ranges.Has(l, n); got != held[n] {
				t.Fatalf("P3.2: Has(%v, %d) = %v", l, n, got)
			}
		}
	}
}

func TestP3_3_Examples(t *testing.T) {
	for _, c := range []struct{ a, b, union, inter, minus []api.Range }{
		{list(0x41, 0x43), list(0x44, 0x50), list(0x41, 0x50), nil, list(0x41, 0x43)},
		{list(0x41, 0x50), list(0x45, 0x60), list(0x41, 0x60), list(0x45, 0x50), list(0x41, 0x44)},
		{list(0x41, 0x50), list(0x45, 0x46), list(0x41, 0x50), list(0x45, 0x46), list(0x41, 0x44, 0x47, 0x50)},
		{list(0x41, 0x43), list(0x45, 0x46), list(0x41, 0x43, 0x45, 0x46), nil, list(0x41, 0x43)},
		{list(1, 3, 2, 9), list(9, 9, 3, 4, 20, 21), list(1, 9, 20, 21), list(3, 4, 9, 9), list(1, 2, 5, 8)},
		{list(1, 3), nil, list(1, 3), nil, list(1, 3)},
		{nil, list(1, 3), list(1, 3), nil, nil},
		{nil, nil, nil, nil, nil},
		{list(0, 0x10FFFF), list(0, 0, 0x10FFFF, 0x10FFFF), list(0, 0x10FFFF), list(0, 0, 0x10FFFF, 0x10FFFF), list(1, 0x10FFFE)},
	} {
		got, err := ranges.Union(c.a, c.b)
		check(t, "P3.3", "Union", got, err, c.union)
		got, err = ranges.Inter(c.a, c.b)
		check(t, "P3.3", "Inter", got, err, c.inter)
		got, err = ranges.Minus(c.a, c.b)
		check(t, "P3.3", "Minus", got, err, c.minus)
	}
	for _, c := range []struct{ a, want []api.Range }{
		{nil, list(0, 0x10FFFF)},
		{list(0, 0x10FFFF), nil},
		{list(0x800, 0x10FFFF, 0, 0x7FF), nil},
		{list(1, 0x10), list(0, 0, 0x11, 0x10FFFF)},
		{list(0, 0), list(1, 0x10FFFF)},
		{list(0x10FFFF, 0x10FFFF, 5, 5), list(0, 4, 6, 0x10FFFE)},
		{list(0, 0xD7FF, 0xE000, 0x10FFFF), list(0xD800, 0xDFFF)},
	} {
		got, err := ranges.Not(c.a)
		check(t, "P3.3", "Not", got, err, c.want)
	}
}

func TestP3_3_WrongLists(t *testing.T) {
	fit := list(1, 5)
	for _, l := range wrongLists() {
		if got, err := ranges.Not(l); got != nil || err != api.ErrArg {
			t.Errorf("P3.3: Not(%v) = %v, %v", l, got, err)
		}
		for name, call := range map[string]twoSets{"Union": ranges.Union, "Inter": ranges.Inter, "Minus": ranges.Minus} {
			for _, pair := range [][2][]api.Range{{l, fit}, {fit, l}, {l, l}, {l, nil}, {nil, l}} {
				if got, err := call(pair[0], pair[1]); got != nil || err != api.ErrArg {
					t.Errorf("P3.3: %s(%v, %v) = %v, %v", name, pair[0], pair[1], got, err)
				}
			}
		}
	}
}

// Of lists within 0 to 4 all points above are alike, so the oracle looks at six of them and draws out what reaches the last.
func TestP3_3_SmallLists(t *testing.T) {
	const high = 4
	lists := small(high, 2)
	for _, a := range lists {
		for _, b := range lists {
			inA, inB := of(a, high+2), of(b, high+2)
			for _, op := range operations {
				want := oracle(inA, inB, op.want).list()
				if last := len(want) - 1; last >= 0 && want[last].High == high+1 {
					want[last].High = api.MaxPoint
				}
				got, err := op.call(a, b)
				if err != nil || !slices.Equal(got, want) {
					t.Fatalf("P3.3: %s(%v, %v) = %v, %v, want %v", op.name, a, b, got, err, want)
				}
			}
		}
	}
}

func TestP3_3_Samples(t *testing.T) {
	lists := samples(120)
	for i := range lists {
		a, b := lists[i], lists[(i+1)%len(lists)]
		inA, inB := of(a, all), of(b, all)
		for _, op := range operations {
			got, err := op.call(a, b)
			check(t, "P3.3", op.name, got, err, oracle(inA, inB, op.want).list())
		}
	}
}

func TestP3_4_Count(t *testing.T) {
	for _, c := range []struct {
		in   []api.Range
		want int
	}{
		{nil, 0},
		{list(0, 0), 1},
		{list(0x41, 0x43, 0x42, 0x44), 4},
		{list(9, 9, 9, 9, 1, 2), 3},
		{list(0, 0x10FFFF), 0x110000},
		{list(0, 0x10FFFF, 5, 5, 0, 0x10FFFF), 0x110000},
		{list(0xD800, 0xDFFF), 0x800},
	} {
		if got, err := ranges.Count(c.in); got != c.want || err != nil {
			t.Errorf("P3.4: Count(%v) = %d, %v, want %d", c.in, got, err, c.want)
		}
	}
	for _, l := range samples(100) {
		if got, err := ranges.Count(l); got != of(l, all).count() || err != nil {
			t.Errorf("P3.4: Count(%v) = %d, %v", l, got, err)
		}
	}
	for _, l := range wrongLists() {
		if got, err := ranges.Count(l); got != 0 || err != api.ErrArg {
			t.Errorf("P3.4: Count(%v) = %d, %v", l, got, err)
		}
	}
}

// sure is the answer to a call on lists that may be.
func sure[T any](t *testing.T) func(answer T, err error) T {
	return func(answer T, err error) T {
		t.Helper()
		if err != nil {
			t.Errorf("P3.5: refused: %v", err)
		}
		return answer
	}
}

func TestP3_5_Laws(t *testing.T) {
	set, number := sure[[]api.Range](t), sure[int](t)
	lists := samples(300)
	for i := range lists {
		a, b := lists[i], lists[(i+1)%len(lists)]
		notA, notB := set(ranges.Not(a)), set(ranges.Not(b))
		union, inter := set(ranges.Union(a, b)), set(ranges.Inter(a, b))
		normal := set(ranges.Normal(a))
		check(t, "P3.5", "Normal(Normal(a))", set(ranges.Normal(normal)), nil, normal)
		check(t, "P3.5", "Not(Not(a))", set(ranges.Not(notA)), nil, normal)
		check(t, "P3.5", "Not(Union(Not(a), Not(b)))", set(ranges.Not(set(ranges.Union(notA, notB)))), nil, inter)
		check(t, "P3.5", "Inter(a, Not(b))", set(ranges.Inter(a, notB)), nil, set(ranges.Minus(a, b)))
		counts := number(ranges.Count(a)) + number(ranges.Count(b))
		if together := number(ranges.Count(union)) + number(ranges.Count(inter)); counts != together {
			t.Errorf("P3.5: %v and %v have %d points, their Union and Inter %d", a, b, counts, together)
		}
		if together := number(ranges.Count(a)) + number(ranges.Count(notA)); together != api.MaxPoint+1 {
			t.Errorf("P3.5: %v and its Not have %d points", a, together)
		}
	}
}

func TestP3_5_OneNormalForSamePoints(t *testing.T) {
	lists := small(4, 2)
	for _, a := range lists {
		for _, b := range lists {
			normalA, _ := ranges.Normal(a)
			normalB, _ := ranges.Normal(b)
			same := true
			for n := range 6 {
				same = same && ranges.Has(a, n) == ranges.Has(b, n)
			}
			if same != slices.Equal(normalA, normalB) {
				t.Fatalf("P3.5: Normal(%v) = %v, Normal(%v) = %v", a, normalA, b, normalB)
			}
		}
	}
}

// Half of these lists hold ranges that may not be: each call ends, and refuses just those.
func TestP3_6_AnyNumbers(t *testing.T) {
	chance := rand.New(rand.NewSource(6))
	numbers := []int{math.MinInt, math.MinInt + 1, -2, -1, 0, 1, 2, 0x10FFFE, 0x10FFFF, 0x110000, 0x110001, math.MaxInt - 1, math.MaxInt}
	number := func() int { return numbers[chance.Intn(len(numbers))] }
	fits := func(l []api.Range) bool {
		return !slices.ContainsFunc(l, func(r api.Range) bool { return r.Low < 0 || r.High > 0x10FFFF || r.High < r.Low })
	}
	for range 20000 {
		var two [2][]api.Range
		for i := range two {
			for range chance.Intn(3) {
				two[i] = append(two[i], api.Range{Low: number(), High: number()})
			}
		}
		a, b := two[0], two[1]
		ranges.Has(a, number())
		if _, err := ranges.Count(a); (err == nil) != fits(a) {
			t.Errorf("P3.4: Count(%v): %v", a, err)
		}
		for _, op := range operations {
			refused := !fits(a) || !fits(b) && op.name != "Normal" && op.name != "Not"
			if got, err := op.call(a, b); refused != (err == api.ErrArg) || !refused && err != nil || refused && got != nil {
				t.Errorf("P3.6: %s(%v, %v) = %v, %v", op.name, a, b, got, err)
			}
		}
	}
}

// Long lists that touch, overlap and stand in falling order are answered in time.
func TestP3_6_LongLists(t *testing.T) {
	var falling, odd []api.Range
	for n := api.MaxPoint; n > 0; n -= 2 {
		falling = append(falling, api.Range{Low: n - 1, High: n})
		odd = append(odd, api.Range{Low: n, High: n})
	}
	got, err := ranges.Normal(falling)
	check(t, "P3.6", "Normal", got, err, list(0, 0x10FFFF))
	if got, err := ranges.Minus(falling, odd); err != nil || len(got) != 0x88000 {
		t.Errorf("P3.6: Minus has %d ranges, %v", len(got), err)
	}
	if got, err := ranges.Count(odd); err != nil || got != 0x88000 {
		t.Errorf("P3.6: Count = %d, %v", got, err)
	}
}

// roomy is a list with spare room behind it, and the whole of that room.
func roomy(l []api.Range) (list, whole []api.Range) {
	whole = append(slices.Clone(l), api.Range{Low: 77, High: 78}, api.Range{Low: 79, High: 79})
	return whole[:len(l)], whole
}

func TestMemoryOfArguments(t *testing.T) {
	for _, op := range operations {
		a, wholeA := roomy(list(9, 9, 1, 3, 2, 4))
		b, wholeB := roomy(list(3, 5, 0, 0))
		beforeA, beforeB := slices.Clone(wholeA), slices.Clone(wholeB)
		first, _ := op.call(a, b)
		kept := slices.Clone(first)
		second, _ := op.call(a, b)
		for i := range second[:cap(second)] {
			second[:cap(second)][i] = api.Range{Low: -5, High: -5}
		}
		if !slices.Equal(wholeA, beforeA) || !slices.Equal(wholeB, beforeB) {
			t.Errorf("%s: what is handed in is not changed: %v, %v", op.name, wholeA, wholeB)
		}
		for i := range wholeA {
			wholeA[i] = api.Range{Low: -6, High: -6}
		}
		if !slices.Equal(first, kept) {
			t.Errorf("%s: an answer changed: %v, was %v", op.name, first, kept)
		}
	}
}

func TestMemoryOfNormalLists(t *testing.T) {
	in := list(1, 3, 5, 9)
	got, _ := ranges.Normal(in)
	got[0].Low = 2
	if !slices.Equal(in, list(1, 3, 5, 9)) {
		t.Errorf("Normal of a normal list shares its memory: %v", in)
	}
}

func TestMemoryOfHasAndCount(t *testing.T) {
	l, whole := roomy(list(9, 9, 1, 3, 2, 4))
	before := slices.Clone(whole)
	ranges.Has(l, 3)
	ranges.Count(l)
	if !slices.Equal(whole, before) {
		t.Errorf("what is handed in is not changed: %v", whole)
	}
}
