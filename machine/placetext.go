package machine

import "math/bits"

const bitsOfWord = 64

// A set of places is a list of bits, words of 64. As a text the words without a bit are left out: of many places a pattern stands at few.
const (
	bytesOfNumber = 4
	bytesOfBits   = 8
)

// word is 64 places, those from 64 * at on.
type word struct {
	at     int
	places uint64
}

// addBit puts a place into words that begin at from; places come rising.
func addBit(words []word, from, place int) []word {
	at := place / bitsOfWord
	if end := len(words); end == from || words[end-1].at != at {
		words = append(words, word{at: at})
	}
	words[len(words)-1].places |= 1 << (place % bitsOfWord)
	return words
}

func addBytes(text []byte, n uint64, count int) []byte {
	for range count {
		text = append(text, byte(n))
		n >>= 8
	}
	return text
}

// addWord writes a word; a word always takes the same number of bytes, so no two sets are one text.
func addWord(text []byte, w word) []byte {
	return addBytes(addBytes(text, uint64(w.at), bytesOfNumber), w.places, bytesOfBits)
}

func numberIn(text string, count int) uint64 {
	n := uint64(0)
	for i := count - 1; i >= 0; i-- {
		n = n<<8 | uint64(text[i])
	}
	return n
}

// wordsIn goes through the words of a text.
func wordsIn(text string) func(func(word) bool) {
	return func(yield func(word) bool) {
		for len(text) > 0 {
			w := word{at: int(numberIn(text, bytesOfNumber)), places: numberIn(text[bytesOfNumber:], bytesOfBits)}
			if !yield(w) {
				return
			}
			text = text[bytesOfNumber+bytesOfBits:]
		}
	}
}

// each goes through the places of a word, rising.
func (w word) each(yield func(int) bool) {
	for left := w.places; left != 0; left &= left - 1 {
		if !yield(w.at*bitsOfWord + bits.TrailingZeros64(left)) {
			return
		}
	}
}
