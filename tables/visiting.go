package tables

import "caesura/api"

// visitor is handed the parts of tables one by one: the writer writes what stands there and changes nothing, the reader puts there what it reads.
type visitor interface {
	num(n *int)
	text(s *string)
	truth(b *bool)
	// length is how many elements a list is to have that has so many now.
	length(now int) int
}

// goThrough hands out all parts of tables, in the order of their bytes.
func goThrough(t *api.Tables, v visitor) {
	goList(&t.Names, v, visitor.text)
	goList(&t.Spans, v, goSpan)
	v.num(&t.Symbols)
	goList(&t.Letters, v, goSpan)
	v.num(&t.Stray)
	goPairing(&t.Plain, t.Symbols, v)
	v.num(&t.Engine)
	if t.Engine == api.Merged {
		goPairing(&t.Merged, t.Symbols, v)
	}
	goBefore(&t.Before, v)
	goList(&t.Trail, v, visitor.num)
	goList(&t.Entries, v, visitor.text)
}

// goBefore: one above Before, since that may be -1 and no number is below 0.
func goBefore(before *int, v visitor) {
	above := *before + 1
	v.num(&above)
	*before = above - 1
}

func goSpan(v visitor, s *api.Span) {
	v.num(&s.Low)
	v.num(&s.High)
	v.num(&s.Name)
}

func goPairing(p *api.Pairing, symbols int, v visitor) {
	goMachine(&p.Left, symbols, v)
	goMachine(&p.Right, symbols, v)
	goList(&p.Breaks, v, visitor.truth)
	v.truth(&p.Else)
}

func goMachine(m *api.Machine, symbols int, v visitor) {
	v.num(&m.Start)
	for s := range v.length(len(m.Next)) {
		goItem(&m.Next, s, v, func(v visitor, next *[]int) { goItems(next, symbols, v, visitor.num) })
		goItem(&m.Out, s, v, func(v visitor, out *[]int) { goList(out, v, visitor.num) })
	}
}

func goList[T any](l *[]T, v visitor, visit func(visitor, *T)) {
	goItems(l, v.length(len(*l)), v, visit)
}

func goItems[T any](l *[]T, count int, v visitor, visit func(visitor, *T)) {
	for i := range count {
		goItem(l, i, v, visit)
	}
}

// goItem visits an element of a list that may be yet to come: what is read grows one by one, so that a length without elements behind it takes no room.
func goItem[T any](l *[]T, i int, v visitor, visit func(visitor, *T)) {
	if i == len(*l) {
		var none T
		*l = append(*l, none)
	}
	visit(v, &(*l)[i])
}
