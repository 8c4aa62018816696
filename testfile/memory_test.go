package testfile_test

import (
	"bytes"
	"slices"
	"strings"
	"sync"
	"testing"

	"caesura/api"
	"caesura/testfile"
)

// spoil writes into a list, and behind its end.
func spoil(l []int) {
	l = l[:cap(l)]
	for i := range l {
		l[i] = -7
	}
}

// roomy is a list with room behind it that holds marks; kept tells whether they still stand there.
func roomy(n ...int) []int {
	l := append(slices.Clone(n), -9, -9, -9)
	return l[:len(n)]
}

func kept(l []int, n ...int) bool {
	return slices.Equal(l, n) && slices.Equal(l[:len(n)+3][len(n):], list(-9, -9, -9))
}

// spoilOneByOne writes into each list of cases in turn, and looks whether the others are still as they were.
func spoilOneByOne(t *testing.T, promise string, l []api.Case) {
	t.Helper()
	var lists, were [][]int
	for _, c := range l {
		lists = append(lists, c.Points, c.Breaks)
		were = append(were, slices.Clone(c.Points), slices.Clone(c.Breaks))
	}
	for i := range lists {
		spoil(lists[i])
		for k := i + 1; k < len(lists); k++ {
			if !slices.Equal(lists[k], were[k]) {
				t.Errorf("%s: lists %d and %d share memory", promise, i, k)
			}
		}
	}
	clear(l[:cap(l)])
}

func TestP0_5_Parse(t *testing.T) {
	text := "÷ 0041 × 0042 ÷ 0043 ÷\n× 0041 ÷\n÷\n÷ 0041 × 0042 ÷ 0043 ÷\n×\n"
	want := []api.Case{made(points("ABC"), 0, 2, 3), made(points("A"), 1), made(nil, 0), made(points("ABC"), 0, 2, 3), {}}
	for range 3 {
		l, _, err := testfile.Parse(text)
		if err != nil || !same(l, want) {
			t.Fatalf("P23.1: %v, %v, want %v", l, err, want)
		}
		spoilOneByOne(t, "P0.5", l)
	}
}

func TestP0_5_Print(t *testing.T) {
	p, b := roomy(0x41, 0x42), roomy(0, 2)
	l := []api.Case{made(p, b...), {Points: p, Breaks: b}, {Points: roomy(0xd800)}}
	for range 2 {
		prints(t, "P23.2", l[:2], "÷ 0041 × 0042 ÷\n÷ 0041 × 0042 ÷", nil)
		prints(t, "P23.2", l, "", api.ErrArg)
	}
	if !kept(p, 0x41, 0x42) || !kept(b, 0, 2) || !kept(l[2].Points, 0xd800) {
		t.Error("P0.5: Print changes what it is handed")
	}
}

func TestP0_5_Run(t *testing.T) {
	for _, s := range each(t, rulesFile, bundleFile) {
		before := s.Save()
		p, b := roomy(points("A. B")...), roomy(0, 2)
		l := []api.Case{{Points: p, Breaks: b}, {Points: p, Breaks: roomy(1, 0)}, {Points: p, Breaks: b}, made(p, 0, 3, 4)}
		for range 2 {
			f := testfile.Run(s, l)
			want := []api.Failure{{Case: 0, Got: list(0, 3, 4)}, {Case: 1}, {Case: 2, Got: list(0, 3, 4)}}
			if !slices.EqualFunc(f, want, sameFailure) {
				t.Fatalf("P23.4: %v, want %v", f, want)
			}
			spoil(f[0].Got)
			spoil(f[1].Got)
			if !slices.Equal(f[2].Got, list(0, 3, 4)) {
				t.Error("P0.5: two lists of one answer share memory")
			}
			spoil(f[2].Got)
			if !kept(p, points("A. B")...) || !kept(b, 0, 2) || !kept(l[1].Breaks, 1, 0) {
				t.Error("P0.5: Run changes what it is handed, or answers it")
			}
		}
		if !bytes.Equal(s.Save(), before) {
			t.Error("P0.5: Run changes the splitter")
		}
	}
}

func TestP0_5_Make(t *testing.T) {
	for _, s := range each(t, rulesFile, bundleFile) {
		before := s.Save()
		p, none := roomy(points("A. B")...), roomy()
		for range 2 {
			l, err := testfile.Make(s, [][]int{p, none, p, p[:1], p})
			whole := made(points("A. B"), 0, 3, 4)
			if want := []api.Case{whole, {}, whole, made(points("A"), 0, 1), whole}; err != nil || !same(l, want) {
				t.Fatalf("P23.5: %v, %v, want %v", l, err, want)
			}
			// what is handed in is not kept
			p[0] = 'x'
			if l[0].Points[0] != 'A' || l[3].Points[0] != 'A' {
				t.Error("P0.5: Make keeps what it is handed")
			}
			p[0] = 'A'
			spoilOneByOne(t, "P0.5", l)
			if !kept(p, points("A. B")...) || !kept(none) {
				t.Error("P0.5: Make changes what it is handed, or answers it")
			}
		}
		if !bytes.Equal(s.Save(), before) {
			t.Error("P0.5: Make changes the splitter")
		}
	}
}

// P0.2: the same calls answer the same, beside one another too.
func TestP0_2_AtOnce(t *testing.T) {
	s := built(t, rulesFile, bundleFile, much)
	var all sync.WaitGroup
	for range 8 {
		all.Go(func() {
			text := strings.Repeat("÷ 0041 × 002E × 0020 ÷ 0042 ÷\n× 0041 ×\n", 200)
			l, _, err := testfile.Parse(text)
			if len(l) != 400 || err != nil {
				t.Errorf("P23.1: %d cases, %v", len(l), err)
				return
			}
			if f := testfile.Run(s, l); len(f) != 200 || f[199].Case != 399 || !slices.Equal(f[199].Got, list(0, 1)) {
				t.Errorf("P23.4: %d failures", len(f))
			}
			short, err := testfile.Print(l)
			if err != nil || short+"\n" != text {
				t.Errorf("P23.2: %.100q, %v", short, err)
			}
		})
	}
	all.Wait()
}
