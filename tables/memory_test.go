package tables_test

import (
	"bytes"
	"cmp"
	"reflect"
	"slices"
	"testing"

	"caesura/api"
	"caesura/tables"
)

// copyOf is tables that share nothing with those that are handed in.
func copyOf(x api.Tables) api.Tables {
	x.Names, x.Spans, x.Letters, x.Trail, x.Entries = slices.Clone(x.Names), slices.Clone(x.Spans), slices.Clone(x.Letters), slices.Clone(x.Trail), slices.Clone(x.Entries)
	for _, p := range []*api.Pairing{&x.Plain, &x.Merged} {
		p.Breaks = slices.Clone(p.Breaks)
		for _, m := range []*api.Machine{&p.Left, &p.Right} {
			m.Next, m.Out = copied(m.Next), copied(m.Out)
		}
	}
	return x
}

func copied(l [][]int) [][]int {
	var c [][]int
	for _, one := range l {
		c = append(c, slices.Clone(one))
	}
	return c
}

// spoilAll writes into all lists of tables, and behind their ends.
func spoilAll(x api.Tables) {
	for _, l := range [][]string{x.Names, x.Entries} {
		fill(l, "?")
	}
	for _, l := range [][]api.Span{x.Spans, x.Letters} {
		fill(l, api.Span{Low: -7})
	}
	fill(x.Trail, -7)
	for _, p := range []api.Pairing{x.Plain, x.Merged} {
		fill(p.Breaks, true)
		for _, l := range [][][]int{p.Left.Next, p.Left.Out, p.Right.Next, p.Right.Out} {
			for _, row := range l {
				fill(row, -7)
			}
			fill(l, list(-7))
		}
	}
}

func fill[T any](l []T, with T) {
	l = l[:cap(l)]
	for i := range l {
		l[i] = with
	}
}

// areas are where the lists of tables lie in memory, with their spare room; those that have any, rising.
func areas(x api.Tables) [][2]uintptr {
	lists := []any{x.Names, x.Spans, x.Letters, x.Trail, x.Entries}
	for _, p := range []api.Pairing{x.Plain, x.Merged} {
		lists = append(lists, p.Breaks)
		for _, l := range [][][]int{p.Left.Next, p.Left.Out, p.Right.Next, p.Right.Out} {
			lists = append(lists, l)
			for _, row := range l {
				lists = append(lists, row)
			}
		}
	}
	var all [][2]uintptr
	for _, l := range lists {
		if v := reflect.ValueOf(l); v.Cap() > 0 {
			all = append(all, [2]uintptr{v.Pointer(), v.Pointer() + uintptr(v.Cap())*v.Type().Elem().Size()})
		}
	}
	slices.SortFunc(all, func(a, b [2]uintptr) int { return cmp.Compare(a[0], b[0]) })
	return all
}

func loaded(t *testing.T, p []byte) api.Tables {
	t.Helper()
	x, err := tables.Load(p)
	if err != nil {
		t.Fatalf("P18.3: %v", err)
	}
	return x
}

// Who writes into a list of what Load answers, or behind its end, changes no other list of it, nor what it read, nor a later answer.
func TestP18_3_Answers(t *testing.T) {
	d := newDrawn(18)
	for _, want := range []api.Tables{small(), greater(), d.tables(), d.tables(), d.tables(), wide(300, chain(50, 300), chain(60, 300))} {
		p := saved(t, want)
		x := loaded(t, p)
		for i, area := range areas(x) {
			if i > 0 && areas(x)[i-1][1] > area[0] {
				t.Fatal("P0.5: two lists of an answer share memory")
			}
		}
		other := loaded(t, p)
		spoilAll(x)
		if !bytes.Equal(p, bytesOf(want)) || !same(other, want) || !same(loaded(t, p), want) {
			t.Error("P0.5: an answer shares memory with what was read, or with another answer")
		}
	}
}

// The bytes that Load reads are not kept: who changes them later changes no answer. So with those that Save writes.
func TestP18_3_Kept(t *testing.T) {
	want := greater()
	p := saved(t, want)
	x := loaded(t, p)
	clear(p[:cap(p)])
	if !same(x, want) {
		t.Error("P0.5: Load keeps what it is handed")
	}
	q := saved(t, want)
	clear(p[:cap(p)])
	if !bytes.Equal(q, bytesOf(want)) {
		t.Error("P0.5: two answers of Save share memory")
	}
}

// roomy is a list with spare room, in which something stands.
func roomy[T any](l []T, spare ...T) []T { return append(slices.Clone(l), spare...)[:len(l)] }

// spacious is tables all of whose lists have spare room.
func spacious(x api.Tables) api.Tables {
	x = copyOf(x)
	x.Names, x.Entries = roomy(x.Names, "Y", "Z"), roomy(x.Entries, "y", "z")
	x.Spans, x.Letters = roomy(x.Spans, api.Span{Low: 5}), roomy(x.Letters, api.Span{Low: 6})
	x.Trail = roomy(x.Trail, 71, 72)
	for _, p := range []*api.Pairing{&x.Plain, &x.Merged} {
		p.Breaks = roomy(p.Breaks, true, true)
		for _, l := range []*[][]int{&p.Left.Next, &p.Left.Out, &p.Right.Next, &p.Right.Out} {
			for i := range *l {
				(*l)[i] = roomy((*l)[i], 73, 74)
			}
			*l = roomy(*l, list(75), list(76))
		}
	}
	return x
}

// stretched is all lists with their spare room.
func stretched(x api.Tables) []any {
	all := []any{x, x.Names[:cap(x.Names)], x.Entries[:cap(x.Entries)], x.Spans[:cap(x.Spans)], x.Letters[:cap(x.Letters)], x.Trail[:cap(x.Trail)]}
	for _, p := range []api.Pairing{x.Plain, x.Merged} {
		all = append(all, p.Breaks[:cap(p.Breaks)])
		for _, l := range [][][]int{p.Left.Next, p.Left.Out, p.Right.Next, p.Right.Out} {
			for _, row := range l[:cap(l)] {
				all = append(all, row[:cap(row)])
			}
		}
	}
	return all
}

// What is handed in is not changed, spare room neither, whether it may be or not; and not kept.
func TestP18_1_Arguments(t *testing.T) {
	changes := []func(x *api.Tables){
		func(x *api.Tables) {},
		func(x *api.Tables) { x.Spans[1].Name = 0 },
		func(x *api.Tables) { x.Plain.Right.Out[1] = x.Plain.Right.Out[0] },
		func(x *api.Tables) { x.Entries[2] = "\xff" },
	}
	for _, change := range changes {
		base := greater()
		change(&base)
		x, was := spacious(base), spacious(base)
		before := stretched(x)
		err := tables.Check(x)
		p, saveErr := tables.Save(x)
		if !reflect.DeepEqual(before, stretched(was)) || !reflect.DeepEqual(stretched(x), stretched(was)) {
			t.Error("P0.5: Check or Save changes what it is handed")
		}
		if saveErr != err {
			t.Errorf("P18.2: %v, but Check says %v", saveErr, err)
		}
		held := bytes.Clone(p)
		spoilAll(x)
		if !bytes.Equal(p, held) {
			t.Error("P0.5: Save keeps what it is handed")
		}
	}
	p := append(saved(t, greater()), "spare"...)
	held := bytes.Clone(p)
	loaded(t, p[:len(p)-5])
	unread(t, "with more behind", p, api.ErrSum)
	if !bytes.Equal(p, held) {
		t.Error("P0.5: Load changes what it is handed")
	}
}

// P0.2: the same calls, the same answers.
func TestP18_2_Again(t *testing.T) {
	d := newDrawn(182)
	for range 300 {
		x := d.tables()
		p := saved(t, x)
		if !bytes.Equal(p, saved(t, x)) || !same(loaded(t, p), loaded(t, p)) {
			t.Fatalf("P0.2: %s", brief(x))
		}
	}
}
