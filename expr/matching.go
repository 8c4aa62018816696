package expr

import (
	"slices"

	"caesura/api"
)

// way is asked to go on from a place of the word.
type way func(place int)

// reading goes through a word unit by unit, on all ways at once.
type reading struct {
	waiting []step // for the next unit
	waited  []step // for the one ahead of it: its memory is used again
	ended   int    // the last place at which the whole expression was through
}

// step is a set that waits for a unit, and where it goes on behind one that it holds.
type step struct {
	set  api.Set
	next way
}

// matches is asked of expressions alone that may be.
func matches(e api.Expr, word []api.Kind) bool {
	r := reading{ended: -1}
	start := r.wayThrough(e, func(place int) { r.ended = place })
	start(0)
	for i, unit := range word {
		if len(r.waiting) == 0 {
			return false
		}
		r.take(unit, i+1)
	}
	return r.ended == len(word)
}

func (r *reading) take(unit api.Kind, behind int) {
	r.waiting, r.waited = r.waited[:0], r.waiting
	for _, s := range r.waited {
		if holdsSorted(s.set, unit) {
			s.next(behind)
		}
	}
}

// holdsSorted says what Holds says, of a set that may be: it rises, so it need not be gone through for each unit.
func holdsSorted(s api.Set, k api.Kind) bool {
	_, named := slices.BinarySearch(s.Names, k.Class)
	_, within := slices.BinarySearchFunc(s.Points, k.Point, fromPoint)
	return s.Not != (named || within)
}

// fromPoint is on which side of a point a range lies; 0, if it holds the point.
func fromPoint(r api.Range, point int) int {
	switch {
	case r.High < point:
		return -1
	case r.Low > point:
		return 1
	}
	return 0
}

// wayThrough is the way through e, and on to next.
func (r *reading) wayThrough(e api.Expr, next way) way {
	switch e.Kind {
	case api.ExprSet:
		return once(func(int) { r.waiting = append(r.waiting, step{e.Set, next}) })
	case api.ExprSeq:
		for _, part := range slices.Backward(e.Parts) {
			next = r.wayThrough(part, next)
		}
		return next
	case api.ExprAlt:
		return fork(eachOf(e.Parts, func(part api.Expr) way { return r.wayThrough(part, next) })...)
	case api.ExprOpt:
		return fork(next, r.wayThrough(e.Parts[0], next))
	case api.ExprStar:
		_, again := r.wayRound(e.Parts[0], next)
		return again
	case api.ExprPlus:
		first, _ := r.wayRound(e.Parts[0], next)
		return first
	}
	return next // of the empty word
}

// wayRound is a way through e that may be gone again and again, from its beginning (ahead of e) and from its end (behind e, where it goes on to next or round).
func (r *reading) wayRound(e api.Expr, next way) (beginning, end way) {
	beginning = r.wayThrough(e, func(place int) { end(place) })
	end = fork(next, beginning)
	return beginning, end
}

func fork(ways ...way) way {
	return once(func(place int) {
		for _, onward := range ways {
			onward(place)
		}
	})
}

// once goes on from each place a single time, however often it is asked: stars within stars would ask for ever. Places come rising, so the last one is enough to know.
func once(onward way) way {
	last := -1
	return func(place int) {
		if place != last {
			last = place
			onward(place)
		}
	}
}
