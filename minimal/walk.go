package minimal

import (
	"slices"

	"caesura/api"
)

// meeting is a state of each of two machines to which one word leads: that of the meeting ahead of it, and the symbol.
type meeting struct {
	a, b   int
	ahead  int
	symbol int
}

// walk goes through two machines at once, breadth first, the lowest symbols first: so words come in their order.
type walk struct {
	a, b api.Machine
	met  []meeting
	over []int // of each state (those of b behind those of a) one of the same circle; a circle's last one is over itself
}

func newWalk(a, b api.Machine) *walk {
	w := &walk{a: a, b: b, over: make([]int, len(a.Next)+len(b.Next))}
	for s := range w.over {
		w.over[s] = s
	}
	return w
}

// firstUnlike is the first meeting of states that tell unlike things. Each meeting brings two circles together, so there are fewer of them than states.
func (w *walk) firstUnlike() (int, bool) {
	w.meet(meeting{a: w.a.Start, b: w.b.Start})
	for at := range len(w.over) {
		if at == len(w.met) {
			break
		}
		m := w.met[at]
		if !slices.Equal(w.a.Out[m.a], w.b.Out[m.b]) {
			return at, true
		}
		others := w.b.Next[m.b]
		for symbol, to := range w.a.Next[m.a] {
			w.meet(meeting{a: to, b: others[symbol], ahead: at, symbol: symbol})
		}
	}
	return 0, false
}

// meet keeps a meeting, unless the two states stand in one circle. Then they have met others row by row; what tells these two apart tells two of that row apart, which a lesser word led to: so the least word is never lost.
func (w *walk) meet(m meeting) {
	a, b := w.circle(m.a), w.circle(len(w.a.Next)+m.b)
	if a == b {
		return
	}
	w.over[b] = a
	w.met = append(w.met, m)
}

func (w *walk) circle(s int) int {
	for w.over[s] != s {
		w.over[s] = w.over[w.over[s]]
		s = w.over[s]
	}
	return s
}

// wordTo is the word that leads to a meeting. The first one is led to by the empty word.
func (w *walk) wordTo(at int) []int {
	var word []int
	for at > 0 {
		word = append(word, w.met[at].symbol)
		at = w.met[at].ahead
	}
	slices.Reverse(word)
	return word
}
