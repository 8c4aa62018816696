package breaker_test

import (
	"bytes"
	"cmp"
	"reflect"
	"slices"
	"strings"
	"sync"
	"testing"

	"caesura/api"
	"caesura/breaker"
)

func fill[T any](l []T, with T) {
	l = l[:cap(l)]
	for i := range l {
		l[i] = with
	}
}

// spoilAll writes into all lists of tables, and behind their ends.
func spoilAll(x api.Tables) {
	for _, l := range [][]string{x.Names, x.Entries} {
		fill(l, "?")
	}
	for _, l := range [][]api.Span{x.Spans, x.Letters} {
		fill(l, api.Span{Low: -7})
	}
	fill(x.Trail, -7)
	for _, p := range []api.Pairing{x.Plain, x.Merged} {
		fill(p.Breaks, true)
		for _, l := range [][][]int{p.Left.Next, p.Left.Out, p.Right.Next, p.Right.Out} {
			for _, row := range l {
				fill(row, -7)
			}
			fill(l, list(-7))
		}
	}
}

// areas are where the lists of tables lie in memory, with their spare room; those that have any, rising.
func areas(x api.Tables) [][2]uintptr {
	lists := []any{x.Names, x.Spans, x.Letters, x.Trail, x.Entries}
	for _, p := range []api.Pairing{x.Plain, x.Merged} {
		lists = append(lists, p.Breaks)
		for _, l := range [][][]int{p.Left.Next, p.Left.Out, p.Right.Next, p.Right.Out} {
			lists = append(lists, l)
			for _, row := range l {
				lists = append(lists, row)
			}
		}
	}
	var all [][2]uintptr
	for _, l := range lists {
		if v := reflect.ValueOf(l); v.Cap() > 0 {
			all = append(all, [2]uintptr{v.Pointer(), v.Pointer() + uintptr(v.Cap())*v.Type().Elem().Size()})
		}
	}
	slices.SortFunc(all, func(a, b [2]uintptr) int { return cmp.Compare(a[0], b[0]) })
	return all
}

// Who writes into an answer changes no other one, nor the splitter.
func TestP19_11_Answers(t *testing.T) {
	text := "Hi. Mr. Fox. \xff\u00e9. A"
	for _, budget := range list(0, much) {
		built := example(t, "[root]\n+ Mr.\n+ z. B.\n", budget)
		for _, s := range []*breaker.Splitter{built, loaded(t, built.Save())} {
			want, bytesWanted := s.Tables(), s.Save()
			split, kinds, parts := slices.Clone(s.Split(text)), slices.Clone(s.Kinds(text)), slices.Clone(s.Parts(text))
			x := s.Tables()
			for i, area := range areas(x) {
				if i > 0 && areas(x)[i-1][1] > area[0] {
					t.Fatal("P0.5: two lists of an answer share memory")
				}
			}
			spoilAll(x)
			fill(s.Save(), 0)
			fill(s.Split(text), -7)
			fill(s.Kinds(text), api.Kind{})
			fill(s.Parts(text), "")
			for _, engine := range list(api.Merged, api.Filtered) {
				l, _ := s.SplitBy(engine, text)
				fill(l, -7)
			}
			if !same(s.Tables(), want) || !bytes.Equal(s.Save(), bytesWanted) {
				t.Error("P19.11: the tables of a splitter were changed by their answer's being changed")
			}
			splits(t, "P19.11", s, text, split...)
			if !slices.Equal(s.Kinds(text), kinds) || !slices.Equal(s.Parts(text), parts) {
				t.Error("P19.11: an answer was changed by another one's being changed")
			}
		}
	}
}

// The bytes that Load is handed are neither changed nor kept.
func TestP19_11_Arguments(t *testing.T) {
	s := example(t, bundleFile, much)
	p := append(s.Save(), "spare"...)
	held := bytes.Clone(p)
	again := loaded(t, p[:len(p)-5])
	if !bytes.Equal(p, held) {
		t.Error("P19.11: Load changes what it is handed")
	}
	clear(p)
	if !same(again.Tables(), s.Tables()) {
		t.Error("P19.11: Load keeps what it is handed")
	}
	splits(t, "P19.11", again, "Hi. Mr. Fox. ok.", 0, 4, 16)
}

// P0.2: the same calls give the same answers, whatever was asked ahead of them.
func TestP19_11_Again(t *testing.T) {
	d := newDrawn(1911)
	for range 60 {
		s := d.sample()
		one, two := built(t, s.property, s.rules, bundleOf(s.entries...), "en", much), built(t, s.property, s.rules, bundleOf(s.entries...), "en", much)
		texts := d.texts(10, 10, s.entries)
		for _, text := range texts {
			one.Split(text)
			one.Kinds(text)
		}
		for _, text := range texts {
			if !slices.Equal(one.Split(text), two.Split(text)) {
				t.Fatalf("P0.2: %q, %q: Split(%q)", s.rules, s.entries, text)
			}
		}
		if !bytes.Equal(one.Save(), two.Save()) || !bytes.Equal(one.Save(), one.Save()) {
			t.Fatalf("P0.2: %q, %q: Save", s.rules, s.entries)
		}
	}
}

// A splitter is asked by many at once.
func TestP19_11_AtOnce(t *testing.T) {
	text := strings.Repeat("Hi. Mr. Fox. ok. ", 50)
	for _, budget := range list(0, much) {
		s := example(t, bundleFile, budget)
		want := s.Split(text)
		answers := make([][]int, 16)
		var all sync.WaitGroup
		for i := range answers {
			all.Go(func() {
				s.Kinds(text)
				answers[i] = s.Split(text)
			})
		}
		all.Wait()
		for _, got := range answers {
			if !slices.Equal(got, want) {
				t.Errorf("P19.11: %v, want %v", got, want)
			}
		}
	}
}
