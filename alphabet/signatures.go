package alphabet

import (
	"iter"
	"slices"

	"caesura/api"
	"caesura/props"
)

const (
	wordBits = 64
	gapLow   = 0xD800 // from here on
	gapHigh  = 0xDFFF // to here there are points that no unit has
)

// signature says by a bit for each set whether it holds a unit. It is an array with room for all sets that may be, so that it is the key of a map as it is.
type signature [api.MaxSets / wordBits]uint64

func (s *signature) flip(number int) { s[number/wordBits] ^= 1 << (number % wordBits) }

func (s *signature) has(number int) bool { return s[number/wordBits]>>(number%wordBits)&1 == 1 }

// edge is a point at which a range of a set begins, or the one behind its last, and the set's number, as one number: there may be millions to sort.
type edge int

func edgeOf(at, set int) edge { return edge(at*api.MaxSets + set) }

func (e edge) at() int { return int(e / api.MaxSets) }

func (e edge) set() int { return int(e % api.MaxSets) }

// survey goes through all units, rising, and knows at each which sets hold it.
type survey struct {
	not    signature   // the sets that hold all others
	named  []signature // of each class, the sets that name it
	within signature   // the sets that have the point in a range
	ahead  []edge      // those not passed yet, rising
}

// newSurvey takes sets that may be.
func newSurvey(classes []string, sets []api.Set) *survey {
	s := &survey{named: make([]signature, len(classes)), ahead: edgesOf(sets)}
	for number, set := range sets {
		if set.Not {
			s.not.flip(number)
		}
		for class, name := range classes {
			// The classes are few, the names of a set may be many.
			if _, named := slices.BinarySearch(set.Names, name); named {
				s.named[class].flip(number)
			}
		}
	}
	return s
}

// edgesOf are the edges of all sets, rising.
func edgesOf(sets []api.Set) []edge {
	count := 0
	for _, set := range sets {
		count += 2 * len(set.Points)
	}
	edges := make([]edge, 0, count)
	for number, set := range sets {
		for _, r := range set.Points {
			edges = append(edges, edgeOf(r.Low, number), edgeOf(r.High+1, number))
		}
	}
	slices.Sort(edges)
	return edges
}

// stretches cuts the code points into ranges that no set and no class cuts further, and tells the signature of each. It is gone through once.
func (s *survey) stretches(t *props.Table) iter.Seq2[api.Range, signature] {
	return func(yield func(api.Range, signature) bool) {
		for _, all := range [2]api.Range{{Low: 0, High: gapLow - 1}, {Low: gapHigh + 1, High: api.MaxPoint}} {
			for low := all.Low; low <= all.High; {
				s.pass(low)
				high := lastAlike(t, low, min(all.High, s.nextEdge()-1))
				if !yield(api.Range{Low: low, High: high}, s.held(t.Class(low))) {
					return
				}
				low = high + 1
			}
		}
	}
}

// pass comes to a point: as the ranges of a set do not touch, each edge is a turn from within to without or back.
func (s *survey) pass(point int) {
	for len(s.ahead) > 0 && s.ahead[0].at() <= point {
		s.within.flip(s.ahead[0].set())
		s.ahead = s.ahead[1:]
	}
}

func (s *survey) nextEdge() int {
	if len(s.ahead) == 0 {
		return api.MaxPoint + 1
	}
	return s.ahead[0].at()
}

// lastAlike is the last point, up to most, to which all have the class of low.
func lastAlike(t *props.Table, low, most int) int {
	class := t.Class(low)
	for low < most && t.Class(low+1) == class {
		low++
	}
	return low
}

func (s *survey) held(class int) signature {
	held := s.named[class]
	for i := range held {
		held[i] = s.not[i] ^ (held[i] | s.within[i])
	}
	return held
}

// badUnit is the signature of the unit that lies in no range.
func (s *survey) badUnit() signature {
	s.within = signature{}
	return s.held(0)
}
