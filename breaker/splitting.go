package breaker

import (
	"sort"

	"caesura/api"
	"caesura/filter"
	"caesura/pair"
	"caesura/props"
)

// ready is a splitter that serves with these tables. The filter is made in any case: it can be asked for where the merged engine serves, too.
func ready(t api.Tables, classes *props.Table) (*Splitter, error) {
	f, err := filter.New(t.Plain, t.Symbols, t.Before, t.Trail, entryPoints(t.Entries))
	if err != nil {
		return nil, err
	}
	s := &Splitter{tables: t, classes: classes, filter: f}
	s.engines = map[int]func(list []api.Unit) ([]int, error){api.Filtered: s.byFilter}
	if t.Engine == api.Merged {
		s.engines[api.Merged] = s.byMerged
	}
	return s, nil
}

// byMerged is the places of the boundaries by the merged pairing.
func (s *Splitter) byMerged(list []api.Unit) ([]int, error) {
	return pair.Breaks(s.tables.Merged, s.symbolsOf(list))
}

// byFilter is the places of the boundaries by the plain pairing and the entries beside it.
func (s *Splitter) byFilter(list []api.Unit) ([]int, error) {
	return s.filter.Breaks(pointsOf(list), s.symbolsOf(list))
}

// symbolsOf goes by the tables, not by an alphabet: a splitter that was loaded has none.
func (s *Splitter) symbolsOf(list []api.Unit) []int {
	word := make([]int, len(list))
	for i, u := range list {
		word[i] = s.symbol(u.Point)
	}
	return word
}

func (s *Splitter) symbol(point int) int {
	if point == api.Bad {
		return s.tables.Stray
	}
	letters := s.tables.Letters
	at := sort.Search(len(letters), func(i int) bool { return letters[i].High >= point })
	return letters[at].Name
}

func pointsOf(list []api.Unit) []int {
	points := make([]int, len(list))
	for i, u := range list {
		points[i] = u.Point
	}
	return points
}

// teller tells the offset of a place.
type teller interface{ offset(place int) int }

// spread is the units of a text of so many bytes.
type spread struct {
	list   []api.Unit
	length int
}

func (s spread) offset(place int) int {
	if place == len(s.list) {
		return s.length
	}
	return s.list[place].Start
}

// offsetsOf is the places of a word as offsets.
func offsetsOf[T teller](places []int, word T) []int {
	var offsets []int
	for _, place := range places {
		offsets = append(offsets, word.offset(place))
	}
	return offsets
}
