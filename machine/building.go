package machine

import "caesura/api"

// opening is the places of open that a symbol is a letter of. They are reached by that symbol from every state, so a state's text has their number in their place: texts stay short, however many patterns may begin everywhere.
type opening struct {
	places string
	ends   []int
}

// builder makes the states in the order in which they are met.
type builder struct {
	*joined
	openings []opening
	reach    []uint64 // the places that follow those of a state, without open
	texts    [][]byte // of each symbol the state that it leads to; the opening's number stays there
	numbers  map[string]int
	states   []string
	most     int
	outs     int
	machine  api.Machine
}

func newBuilder(j *joined, most int) *builder {
	b := &builder{
		joined:  j,
		reach:   make([]uint64, len(j.open)),
		texts:   make([][]byte, j.symbols),
		numbers: map[string]int{},
		most:    most,
	}
	b.part(j.open)
	known := map[string]int{}
	for symbol, text := range b.texts {
		number, met := known[string(text)]
		if !met {
			number = len(b.openings)
			places := string(text)
			known[places] = number
			b.openings = append(b.openings, opening{places: places, ends: j.endAt(places)})
		}
		b.texts[symbol] = addBytes(text[:0], uint64(number), bytesOfNumber)
	}
	return b
}

// part writes each of the places to the texts of its letters.
func (b *builder) part(set []uint64) {
	for at, places := range set {
		if places == 0 {
			continue
		}
		for _, l := range b.letters.of(at) {
			if both := places & l.places; both != 0 {
				b.texts[l.symbol] = addWord(b.texts[l.symbol], word{at: at, places: both})
			}
		}
	}
}

func (b *builder) build() (api.Machine, error) {
	if err := b.addState("", merged(b.atStart, nil)); err != nil {
		return api.Machine{}, err
	}
	for state := 0; state < len(b.states); state++ {
		b.reachFrom(state)
		b.part(b.reach)
		next, err := b.nextStates()
		if err != nil {
			return api.Machine{}, err
		}
		b.machine.Next = append(b.machine.Next, next)
	}
	return b.machine, nil
}

func (b *builder) reachFrom(state int) {
	if state == 0 {
		copy(b.reach, b.closed)
		return
	}
	clear(b.reach)
	first, rest := b.read(b.states[state])
	b.follows(b.reach, first.places)
	b.follows(b.reach, rest)
	for i, places := range b.open {
		b.reach[i] &^= places
	}
}

func (b *builder) read(text string) (opening, string) {
	return b.openings[numberIn(text, bytesOfNumber)], text[bytesOfNumber:]
}

// nextStates is the states of the texts; it leaves the texts without places.
func (b *builder) nextStates() ([]int, error) {
	next := make([]int, b.symbols)
	for symbol, text := range b.texts {
		number, met := b.numbers[string(text)]
		if !met {
			number = len(b.states)
			state := string(text)
			b.numbers[state] = number
			if err := b.addState(state, b.endBehind(state)); err != nil {
				return nil, err
			}
		}
		next[symbol] = number
		b.texts[symbol] = text[:bytesOfNumber]
	}
	return next, nil
}

func (b *builder) endBehind(state string) []int {
	first, rest := b.read(state)
	return merged(b.always, merged(first.ends, b.endAt(rest)))
}

func (b *builder) addState(text string, out []int) error {
	b.outs += len(out)
	if len(b.states) == b.most || b.outs > api.MaxCells {
		return api.ErrMany
	}
	b.states = append(b.states, text)
	b.machine.Out = append(b.machine.Out, out)
	return nil
}
