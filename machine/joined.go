package machine

import "caesura/api"

// letter is a symbol, and which of the 64 places of a word have it among their letters.
type letter struct {
	symbol int
	places uint64
}

// joined is many patterns as one, their places counted through.
type joined struct {
	symbols int
	owner   []int        // of each place the pattern
	follow  rows[word]   // of each place
	letters rows[letter] // of each word of places
	last    []uint64
	open    []uint64 // First of the patterns that may begin everywhere
	closed  []uint64 // First of the Anchored ones
	atStart []int    // the patterns that end behind the empty word
	always  []int    // those that end behind every word
}

func joinedOf(l []api.Pattern, symbols int) *joined {
	places := 0
	for _, p := range l {
		places += len(p.Positions.Letters)
	}
	words := (places + bitsOfWord - 1) / bitsOfWord
	j := &joined{
		symbols: symbols,
		owner:   make([]int, 0, places),
		last:    make([]uint64, words),
		open:    make([]uint64, words),
		closed:  make([]uint64, words),
	}
	letters := make([][]int, 0, places)
	for number, p := range l {
		j.add(number, p)
		letters = append(letters, p.Positions.Letters...)
	}
	j.addLetters(letters)
	return j
}

// add puts the places of a pattern behind those that are there.
func (j *joined) add(number int, p api.Pattern) {
	base := len(j.owner)
	first := j.open
	if p.Anchored {
		first = j.closed
	}
	addAll(first, base, p.Positions.First)
	addAll(j.last, base, p.Positions.Last)
	for _, list := range p.Positions.Follow {
		j.owner = append(j.owner, number)
		from := len(j.follow.items)
		for _, place := range list {
			j.follow.items = addBit(j.follow.items, from, base+place)
		}
		j.follow.end()
	}
	if !p.Positions.Empty {
		return
	}
	j.atStart = append(j.atStart, number)
	if !p.Anchored {
		j.always = append(j.always, number)
	}
}

func addAll(set []uint64, base int, list []int) {
	for _, place := range list {
		set[(base+place)/bitsOfWord] |= 1 << ((base + place) % bitsOfWord)
	}
}

// addLetters turns the letters of places into the places of letters, word by word.
func (j *joined) addLetters(letters [][]int) {
	have := make([]uint64, j.symbols)
	var met []int
	for len(letters) > 0 {
		met = met[:0]
		count := min(bitsOfWord, len(letters))
		for bit, list := range letters[:count] {
			for _, symbol := range list {
				if have[symbol] == 0 {
					met = append(met, symbol)
				}
				have[symbol] |= 1 << bit
			}
		}
		for _, symbol := range met {
			j.letters.items = append(j.letters.items, letter{symbol: symbol, places: have[symbol]})
			have[symbol] = 0
		}
		j.letters.end()
		letters = letters[count:]
	}
}

// endAt is the patterns that have one of the places of a text as a last one, rising.
func (j *joined) endAt(text string) []int {
	var list []int
	for w := range wordsIn(text) {
		w.places &= j.last[w.at]
		for place := range w.each {
			if n := j.owner[place]; len(list) == 0 || list[len(list)-1] != n {
				list = append(list, n)
			}
		}
	}
	return list
}

// follows puts into reach what follows the places of a text.
func (j *joined) follows(reach []uint64, text string) {
	for w := range wordsIn(text) {
		for place := range w.each {
			for _, next := range j.follow.of(place) {
				reach[next.at] |= next.places
			}
		}
	}
}
