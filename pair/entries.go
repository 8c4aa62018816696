package pair

import (
	"slices"
	"strings"

	"caesura/api"
)

const (
	gapLow  = 0xD800 // from here on
	gapHigh = 0xDFFF // to here there are points that are no scalar values
)

// checkEntries: may entries be so?
func checkEntries(entries [][]int) error {
	if len(entries) > api.MaxEntries {
		return api.ErrMany
	}
	known := map[string]int{}
	for number, entry := range entries {
		if err := checkEntry(entry); err != nil {
			return err
		}
		text := textOf(entry)
		if _, twice := known[text]; twice {
			return api.ErrTwice
		}
		known[text] = number
	}
	return nil
}

// checkEntry looks at all points, of an entry that is too long too: what is no scalar value is told first.
func checkEntry(entry []int) error {
	if len(entry) == 0 || slices.ContainsFunc(entry, isNoScalar) {
		return api.ErrArg
	}
	if len(entry) > api.MaxEntry {
		return api.ErrMany
	}
	return nil
}

func isNoScalar(point int) bool {
	return point < 0 || point > api.MaxPoint || gapLow <= point && point <= gapHigh
}

// textOf is one for two entries just if they are the same, as all points are scalar values.
func textOf(entry []int) string {
	var text strings.Builder
	for _, point := range entry {
		text.WriteRune(rune(point))
	}
	return text.String()
}
