package tables

import (
	"slices"

	"caesura/api"
	"caesura/minimal"
	"caesura/pair"
	"caesura/propfile"
	"caesura/units"
)

// The code points that no text holds: letters pass over them.
const (
	firstSurrogate = 0xD800
	lastSurrogate  = 0xDFFF
)

// unitBytes is the most bytes that a good unit has.
const unitBytes = 4

// classesMayBe: are they Other and the classes of a property?
func classesMayBe(names []string, spans []api.Span) bool {
	if len(names) == 0 || names[0] != api.Other {
		return false
	}
	return propfile.Check(api.Property{Names: names[1:], Spans: withoutOther(spans)}) == nil
}

// withoutOther is the spans as a property has them, which does not count Other among its names.
func withoutOther(spans []api.Span) []api.Span {
	lowered := slices.Clone(spans)
	for i := range lowered {
		lowered[i].Name--
	}
	return lowered
}

func lettersMayBe(t api.Tables) bool {
	if t.Symbols < 1 || t.Symbols > api.MaxSymbols {
		return false
	}
	return coverAll(t.Letters) && areJoined(t.Letters) && areNumbered(t.Letters, t.Stray, t.Symbols)
}

// coverAll: do letters cover each code point that a text may hold once, rising?
func coverAll(letters []api.Span) bool {
	low := 0
	for _, s := range letters {
		if s.Low != low || s.High < low || s.High > api.MaxPoint || holdsSurrogates(s) {
			return false
		}
		low = s.High + 1
		if low == firstSurrogate {
			low = lastSurrogate + 1
		}
	}
	return low == api.MaxPoint+1
}

func holdsSurrogates(s api.Span) bool { return s.Low <= lastSurrogate && s.High >= firstSurrogate }

// areJoined: does each letter that follows right behind another have another symbol?
func areJoined(letters []api.Span) bool {
	for i := 1; i < len(letters); i++ {
		ahead, s := letters[i-1], letters[i]
		if s.Low == ahead.High+1 && s.Name == ahead.Name {
			return false
		}
	}
	return true
}

// areNumbered: are the symbols of letters and stray numbered from 0 on as they come first, and are they so many?
func areNumbered(letters []api.Span, stray, symbols int) bool {
	count := 0
	for _, s := range letters {
		if s.Name < 0 || s.Name > count {
			return false
		}
		count = max(count, s.Name+1)
	}
	if stray < 0 || stray > count {
		return false
	}
	return max(count, stray+1) == symbols
}

// pairingMayBe asks pair first: minimal alone has no bounds, and would work on a machine of any size.
func pairingMayBe(p api.Pairing, symbols int) bool {
	return pair.Check(p, symbols) == nil && minimal.Is(p.Left, symbols) && minimal.Is(p.Right, symbols)
}

func engineMayBe(t api.Tables) bool {
	switch t.Engine {
	case api.Merged:
		return pairingMayBe(t.Merged, t.Symbols)
	case api.Filtered:
		return isNone(t.Merged)
	}
	return false
}

func isNone(p api.Pairing) bool {
	return isNoMachine(p.Left) && isNoMachine(p.Right) && len(p.Breaks) == 0 && !p.Else
}

func isNoMachine(m api.Machine) bool { return m.Start == 0 && len(m.Next) == 0 && len(m.Out) == 0 }

func suppressionsMayBe(t api.Tables) bool {
	if t.Before == -1 {
		return len(t.Trail) == 0 && len(t.Entries) == 0
	}
	if t.Before < 0 || t.Before > len(t.Plain.Breaks) {
		return false
	}
	return trailMayBe(t.Trail, t.Symbols) && entriesMayBe(t.Entries)
}

// trailMayBe: does it rise within the symbols?
func trailMayBe(trail []int, symbols int) bool {
	least := 0
	for _, symbol := range trail {
		if symbol < least || symbol >= symbols {
			return false
		}
		least = symbol + 1
	}
	return true
}

func entriesMayBe(entries []string) bool {
	if len(entries) > api.MaxEntries {
		return false
	}
	for i, entry := range entries {
		if !isEntry(entry) || i > 0 && entries[i-1] >= entry {
			return false
		}
	}
	return true
}

func isEntry(text string) bool {
	// A text that is too long by its bytes need not be cut into units, however long it is.
	if text == "" || len(text) > unitBytes*api.MaxEntry {
		return false
	}
	list := units.Split(text)
	return len(list) <= api.MaxEntry && !slices.ContainsFunc(list, isBad)
}

func isBad(u api.Unit) bool { return u.Point == api.Bad }
