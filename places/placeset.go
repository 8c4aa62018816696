package places

import "math/bits"

const (
	bitsOfWord   = 64
	wordsOfBlock = 8
	bitsOfBlock  = wordsOfBlock * bitsOfWord
)

// block is the bits of neighbouring places.
type block [wordsOfBlock]uint64

// placeSet is a set of places, one bit for each; beyond its blocks there are none.
type placeSet struct {
	blocks []block
}

// roomFor is the empty set, with room for so many places.
func roomFor(places int) placeSet {
	return placeSet{blocks: make([]block, (places+bitsOfBlock-1)/bitsOfBlock)}
}

// only is the set of one place.
func only(place int) placeSet {
	var s placeSet
	s.add(place)
	return s
}

func (s *placeSet) grow(blocks int) {
	if blocks <= len(s.blocks) {
		return
	}
	longer := make([]block, blocks)
	copy(longer, s.blocks)
	s.blocks = longer
}

func (s *placeSet) add(place int) {
	s.grow(place/bitsOfBlock + 1)
	s.blocks[place/bitsOfBlock][place%bitsOfBlock/bitsOfWord] |= 1 << (place % bitsOfWord)
}

func (s *placeSet) addAll(list []int) {
	for _, place := range list {
		s.add(place)
	}
}

func (s *placeSet) join(other placeSet) {
	s.grow(len(other.blocks))
	for i := range other.blocks {
		for j, word := range other.blocks[i] {
			s.blocks[i][j] |= word
		}
	}
}

// meet leaves what is in other too, which has room for as many places.
func (s *placeSet) meet(other placeSet) {
	for i := range s.blocks {
		for j, word := range other.blocks[i] {
			s.blocks[i][j] &= word
		}
	}
}

// hasOneOf asks for places that the set has room for.
func (s placeSet) hasOneOf(list []int) bool {
	for _, place := range list {
		if s.blocks[place/bitsOfBlock][place%bitsOfBlock/bitsOfWord]>>(place%bitsOfWord)&1 == 1 {
			return true
		}
	}
	return false
}

func (s placeSet) isEmpty() bool {
	for i := range s.blocks {
		if s.blocks[i] != (block{}) {
			return false
		}
	}
	return true
}

func (s placeSet) count() int {
	n := 0
	for i := range s.blocks {
		for _, word := range s.blocks[i] {
			n += bits.OnesCount64(word)
		}
	}
	return n
}

// each goes through the places, rising.
func (s placeSet) each(yield func(int) bool) {
	for i := range s.blocks {
		for j, word := range s.blocks[i] {
			for ; word != 0; word &= word - 1 {
				if !yield(i*bitsOfBlock + j*bitsOfWord + bits.TrailingZeros64(word)) {
					return
				}
			}
		}
	}
}

func (s placeSet) list() []int {
	list := make([]int, 0, s.count())
	for place := range s.each {
		list = append(list, place)
	}
	return list
}
