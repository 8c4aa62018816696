package tables

import "caesura/codec"

// writer is a visitor that writes. It is handed tables that may be alone, in which no number is below 0: so Num refuses none.
type writer struct {
	made *codec.Writer
}

func (w writer) num(n *int) { w.made.Num(*n) }

func (w writer) text(s *string) { w.made.Text(*s) }

func (w writer) truth(b *bool) {
	n := 0
	if *b {
		n = 1
	}
	w.made.Num(n)
}

func (w writer) length(now int) int {
	w.made.Num(now)
	return now
}
