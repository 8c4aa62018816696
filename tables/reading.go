package tables

import (
	"caesura/api"
	"caesura/codec"
)

// gaveUp is what a reader panics with, so that no other panic is taken for bytes that cannot be read.
type gaveUp struct{}

// readTables is the tables that stand in p, whether or not they may be; false, if p is not the parts of tables and nothing else.
func readTables(p []byte) (t api.Tables, read bool) {
	defer func() {
		switch given := recover().(type) {
		case nil:
		case gaveUp:
			t, read = api.Tables{}, false
		default:
			panic(given)
		}
	}()
	r := reader{codec.NewReader(p)}
	goThrough(&t, r)
	need(r.rest.Left() == 0)
	return t, true
}

// reader is a visitor that reads, and gives up by a panic where it cannot.
type reader struct {
	rest *codec.Reader
}

func need(ok bool) {
	if !ok {
		panic(gaveUp{})
	}
}

func (r reader) next() int {
	n, err := r.rest.Num()
	need(err == nil)
	return n
}

func (r reader) num(n *int) { *n = r.next() }

func (r reader) text(s *string) {
	text, err := r.rest.Text(r.rest.Left())
	need(err == nil)
	*s = text
}

func (r reader) truth(b *bool) {
	n := r.next()
	need(n <= 1)
	*b = n == 1
}

// length does not ask how many elements there are now: what is read into has none.
func (r reader) length(int) int { return r.next() }
