package places

import "caesura/api"

// row is a list of places: as it came, if that is short, else as a set. So rows take about as much room as the lists, and a list of many places, or of one place many times, joins a set word by word.
type row struct {
	short []int
	long  placeSet
}

func rowOf(list []int, places int) row {
	if len(list) <= places/bitsOfWord {
		return row{short: list}
	}
	long := roomFor(places)
	long.addAll(list)
	return row{long: long}
}

func (r row) joinTo(s *placeSet) {
	s.addAll(r.short)
	s.join(r.long)
}

// walk goes through a word, symbol by symbol, and knows at which places it may be.
type walk struct {
	follow  []row
	numbers map[int]int // of each symbol of the word, which row of holders is its
	holders []row       // the places among whose letters a symbol is
	at      placeSet
	next    placeSet // where a step may lead to
}

func newWalk(p api.Positions, word []int) *walk {
	places := len(p.Letters)
	w := &walk{follow: make([]row, places), numbers: map[int]int{}, at: roomFor(places), next: roomFor(places)}
	for place, list := range p.Follow {
		w.follow[place] = rowOf(list, places)
	}
	for _, symbol := range word {
		if _, known := w.numbers[symbol]; !known {
			w.numbers[symbol] = len(w.numbers)
		}
	}
	for _, list := range w.holdersOf(p.Letters) {
		w.holders = append(w.holders, rowOf(list, places))
	}
	w.next.addAll(p.First)
	return w
}

// holdersOf looks at the word's symbols alone.
func (w *walk) holdersOf(letters [][]int) [][]int {
	lists := make([][]int, len(w.numbers))
	for place, list := range letters {
		for _, symbol := range list {
			if number, known := w.numbers[symbol]; known {
				lists[number] = append(lists[number], place)
			}
		}
	}
	return lists
}

// step reads a symbol; false, if no place is left.
func (w *walk) step(symbol int) bool {
	clear(w.at.blocks)
	w.holders[w.numbers[symbol]].joinTo(&w.at)
	w.at.meet(w.next)
	clear(w.next.blocks)
	for place := range w.at.each {
		w.follow[place].joinTo(&w.next)
	}
	return !w.at.isEmpty()
}
