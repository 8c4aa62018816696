package edit_test

import (
	"bytes"
	"slices"
	"sync"
	"testing"

	"caesura/api"
	"caesura/edit"
)

// spoil writes into a list, and behind its end.
func spoil(l []int) {
	l = l[:cap(l)]
	for i := range l {
		l[i] = -7
	}
}

// P0.5: who writes into an answer, or behind it, changes no other one, nor the document or its splitter.
func TestP22_5_Answers(t *testing.T) {
	for _, s := range each(t, rulesFile, bundleFile) {
		before := s.Save()
		d := edit.New(s, "A. B. C. d")
		spoil(d.Breaks())
		stands(t, "P0.5", d, "A. B. C. d", 0, 3, 6, 10)
		gone, come, err := d.Replace(3, 9, "X. Y. Z. D. ")
		if err != nil || !slices.Equal(gone, list(6)) || !slices.Equal(come, list(6, 9, 12)) {
			t.Errorf("P22.2: %v, %v, %v", gone, come, err)
		}
		spoil(gone)
		if !slices.Equal(come, list(6, 9, 12)) {
			t.Errorf("P0.5: two lists of one answer share memory: %v", come)
		}
		spoil(come)
		spoil(d.Breaks())
		stands(t, "P0.5", d, "A. X. Y. Z. D. d", 0, 3, 6, 9, 12, 16)
		changes(t, "P0.5", d, step{0, 16, "", list(0, 3, 6, 9, 12, 16), nil}, step{0, 0, "A. B", nil, list(0, 3, 4)})
		gone, come, _ = d.Replace(0, 4, "")
		spoil(come)
		if !slices.Equal(gone, list(0, 3, 4)) {
			t.Errorf("P0.5: two lists of one answer share memory: %v", gone)
		}
		spoil(gone)
		for range 4 {
			undone(t, d, nil)
			spoil(d.Breaks())
		}
		stands(t, "P0.5", d, "A. B. C. d", 0, 3, 6, 10)
		if !bytes.Equal(s.Save(), before) {
			t.Error("P0.5: a document changes its splitter")
		}
	}
}

// Documents of one splitter, of one text too, know nothing of one another; what is done with the splitter's answers is no matter.
func TestP22_5_Two(t *testing.T) {
	for _, s := range each(t, rulesFile, bundleFile) {
		a, b := edit.New(s, "A. B"), edit.New(s, "A. B")
		changes(t, "P22.2", a, step{3, 4, "b", list(3), nil})
		stands(t, "P0.2", b, "A. B", 0, 3, 4)
		undone(t, b, api.ErrEnd)
		spoil(s.Split("A. B"))
		changes(t, "P22.2", b, step{4, 4, ". C", list(4), list(6, 7)}, step{0, 3, "", nil, nil})
		spoil(s.Split(b.Text()))
		stands(t, "P0.2", a, "A. b", 0, 4)
		undone(t, a, nil)
		undone(t, a, api.ErrEnd)
		stands(t, "P0.2", a, "A. B", 0, 3, 4)
		stands(t, "P0.2", b, "B. C", 0, 3, 4)
		undone(t, b, nil)
		undone(t, b, nil)
		undone(t, b, api.ErrEnd)
		stands(t, "P0.2", b, "A. B", 0, 3, 4)
	}
}

// Documents of one splitter may be changed at the same time, each by its own goroutine.
func TestP22_5_AtOnce(t *testing.T) {
	s := built(t, rulesFile, bundleFile, much)
	var all sync.WaitGroup
	for range 8 {
		all.Go(func() {
			d := edit.New(s, "")
			for range 50 {
				if _, _, err := d.Replace(len(d.Text()), len(d.Text()), "Hi. Mr. Fox. "); err != nil {
					t.Error(err)
				}
			}
			if !slices.Equal(d.Breaks(), s.Split(d.Text())) {
				t.Error("P22.4: the boundaries are not those of the text")
			}
		})
	}
	all.Wait()
}
