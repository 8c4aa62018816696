package minimal

import "slices"

// parted is the class of each state: two states have one class just if they tell the same behind every word.
func (w *whole) parted() []int {
	p := newParts(len(w.out))
	p.cutAll(w.byOut())
	from := w.into()
	for len(p.queue) > 0 {
		queue := p.take()
		var cells []int
		for i := range len(queue) {
			cells = append(cells, from.of(queue[i])...)
		}
		slices.Sort(cells)
		p.cutAll(w.bySuccessors(p.class, slices.Compact(cells)))
	}
	return p.class
}

func (p *parts) cutAll(lists [][]int) {
	for _, states := range lists {
		p.cut(states)
	}
}

func (w *whole) byOut() [][]int {
	g := newGroups()
	var text []byte
	for state, out := range w.out {
		text = text[:0]
		for _, n := range out {
			text = addNumber(text, n)
		}
		g.add(text, state)
	}
	return g.lists
}

// bySuccessors gathers the states of cells (rising) whose successors have got other classes. States of one class had successors of the same classes; so a state's class and the new classes of its successors say who goes on with whom, and the successors whose class is the old one need not be looked at.
func (w *whole) bySuccessors(class, cells []int) [][]int {
	g := newGroups()
	var text []byte
	for len(cells) > 0 {
		state := cells[0] / w.symbols
		text = addNumber(text[:0], class[state])
		for len(cells) > 0 && cells[0]/w.symbols == state {
			text = addNumber(text, cells[0]%w.symbols)
			text = addNumber(text, class[w.next[cells[0]]])
			cells = cells[1:]
		}
		g.add(text, state)
	}
	return g.lists
}

// groups is states gathered by texts, in the order in which the texts come.
type groups struct {
	numbers map[string]int
	lists   [][]int
}

func newGroups() *groups { return &groups{numbers: map[string]int{}} }

func (g *groups) add(text []byte, state int) {
	n, met := g.numbers[string(text)]
	if !met {
		n = len(g.lists)
		g.numbers[string(text)] = n
		g.lists = append(g.lists, nil)
	}
	g.lists[n] = append(g.lists[n], state)
}

// addNumber writes a number so that no other one begins with its bytes: what is behind it needs no mark between.
func addNumber(text []byte, n int) []byte {
	for n >= 0x80 {
		text = append(text, byte(n)|0x80)
		n >>= 7
	}
	return append(text, byte(n))
}
