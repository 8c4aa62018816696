package offsets

import (
	"unicode/utf8"

	"caesura/api"
	"caesura/units"
)

// place is what stands ahead of a place, counted in each way, and where it lies among the lines.
type place struct {
	bytes, units, wide int
	line, column       int
}

// lastNarrow is the greatest point that is one UTF-16 unit.
const lastNarrow = 0xFFFF

// lineFeed is the point behind which a line begins.
const lineFeed = 0x0A

// placesOf is all places of a text, in their order.
func placesOf(text string) []place {
	// Room for all of them at once: there, too, a byte that is part of no sequence counts as one.
	all := make([]place, 0, utf8.RuneCountInString(text)+1)
	here := place{line: 1, column: 1}
	for unit, ok := units.Next(text, 0); ok; unit, ok = units.Next(text, unit.End) {
		all = append(all, here)
		here = here.behind(unit)
	}
	return append(all, here)
}

// behind is the place behind a unit that begins at this one.
func (p place) behind(unit api.Unit) place {
	next := place{bytes: unit.End, units: p.units + 1, wide: p.wide + width(unit), line: p.line, column: p.column + 1}
	if unit.Point == lineFeed {
		next.line, next.column = p.line+1, 1
	}
	return next
}

// width is how many UTF-16 units a unit is; a bad one is shown as one.
func width(unit api.Unit) int {
	if unit.Point > lastNarrow {
		return 2
	}
	return 1
}

// find is the one of a rising list that against calls neither less than what is sought, nor greater.
func find[T any](list []T, against func(T) int) (T, error) {
	low, high := 0, len(list)
	for low < high {
		middle := low + (high-low)/2
		switch side := against(list[middle]); {
		case side < 0:
			low = middle + 1
		case side > 0:
			high = middle
		default:
			return list[middle], nil
		}
	}
	var none T
	return none, api.ErrArg
}
