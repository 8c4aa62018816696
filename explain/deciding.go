package explain

import (
	"slices"

	"caesura/api"
	"caesura/expr"
	"caesura/units"
)

// decider is rules and entries, made ready to be asked of any word.
type decider struct {
	rules   api.Rules
	sides   []sides // of the rules
	before  int     // how many rules stand ahead of the entries; below 0: entries are not looked at
	entries [][]int // their points
}

// sides are what a rule asks for ahead of a place and behind it.
type sides struct {
	left, right side
}

// word is a row of units, with what need not be asked anew at each of its places.
type word struct {
	decider
	kinds, back []api.Kind // back is kinds turned round: a left side is read from the place back
	standing    []standing // the entries that stand somewhere, in their order
	trailing    []int      // of each place the least from which on the trail holds all units up to it
}

// standing is an entry that stands in a word, and from which units on.
type standing struct {
	entry, size int
	starts      []int
}

func deciderOf(r api.Rules, entries []string) decider {
	d := decider{rules: r, before: min(r.Suppress, len(r.Rules))}
	for _, rule := range r.Rules {
		d.sides = append(d.sides, sides{sideOf(expr.Reverse(rule.Left), rule.Start), sideOf(rule.Right, rule.End)})
	}
	for _, entry := range entries {
		d.entries = append(d.entries, pointsOf(entry))
	}
	return d
}

func pointsOf(text string) []int {
	var points []int
	for _, u := range units.Split(text) {
		points = append(points, u.Point)
	}
	return points
}

func (d decider) read(kinds []api.Kind) word {
	w := word{decider: d, kinds: kinds, back: slices.Clone(kinds)}
	slices.Reverse(w.back)
	if d.before < 0 {
		return w
	}
	for number, points := range d.entries {
		if starts := startsOf(points, kinds); len(starts) > 0 {
			w.standing = append(w.standing, standing{number, len(points), starts})
		}
	}
	for place := range kinds {
		from := place
		if place > 0 && expr.Holds(d.rules.Trail, kinds[place-1]) {
			from = w.trailing[place-1]
		}
		w.trailing = append(w.trailing, from)
	}
	return w
}

// startsOf are the units from which on an entry stands, rising; none of an entry without points.
func startsOf(points []int, kinds []api.Kind) []int {
	var starts []int
	for start := range len(kinds) - len(points) + 1 {
		if len(points) > 0 && slices.EqualFunc(kinds[start:start+len(points)], points, hasPoint) {
			starts = append(starts, start)
		}
	}
	return starts
}

func hasPoint(k api.Kind, point int) bool { return k.Point == point }

// decided is the reason of a place, but for how far a rule's sides reach.
func (w word) decided(place int) api.Reason {
	x := api.Reason{Place: place, Rule: -1, From: place, To: place, Entry: -1, Start: place, Break: w.rules.Else}
search:
	for number := range len(w.sides) + 1 {
		if number == w.before {
			for _, s := range w.standing {
				if start, hides := s.hiding(place, w.trailing[place]); hides {
					x.Entry, x.Start, x.From, x.To, x.Break = s.entry, start, start, start+s.size, false
					break search
				}
			}
		}
		if number < len(w.sides) && w.fits(number, place) {
			x.Rule, x.Break = number, w.rules.Rules[number].Break
			break search
		}
	}
	return x
}

// hiding is the least start from which on the entry hides a place up to which, from trailing on, the trail holds all units: it may end anywhere from there on, if it begins ahead of the place.
func (s standing) hiding(place, trailing int) (int, bool) {
	i, _ := slices.BinarySearch(s.starts, trailing-s.size)
	if i == len(s.starts) || s.starts[i] >= place {
		return 0, false
	}
	return s.starts[i], true
}

func (w word) fits(number, place int) bool {
	ahead, behind := w.beside(place)
	s := w.sides[number]
	return s.left.begins(ahead) && s.right.begins(behind)
}

// beside are the units ahead of a place and behind it, each from the place on.
func (w word) beside(place int) (ahead, behind []api.Kind) {
	return w.back[len(w.kinds)-place:], w.kinds[place:]
}

func (w word) reason(place int) api.Reason {
	x := w.decided(place)
	if x.Rule < 0 {
		return x
	}
	ahead, behind := w.beside(place)
	s := w.sides[x.Rule]
	x.From -= s.left.reach(ahead)
	x.To += s.right.reach(behind)
	return x
}
