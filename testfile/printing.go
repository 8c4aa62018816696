package testfile

import (
	"iter"
	"slices"
	"strconv"
	"strings"

	"caesura/api"
)

// shortFile is that of cases that may be. It gives up at the limit, so that no text is made that is much longer.
func shortFile(l []api.Case) (string, error) {
	var text strings.Builder
	for piece := range pieces(l) {
		if text.Len()+len(piece) > api.MaxFile {
			return "", api.ErrMany
		}
		text.WriteString(piece)
	}
	return text.String(), nil
}

// pieces are those of the short file, one behind the other.
func pieces(l []api.Case) iter.Seq[string] {
	return func(yield func(string) bool) {
		for i, c := range l {
			if i > 0 && !yield("\n") || !yield(mark(c, 0)) {
				return
			}
			for ahead, point := range c.Points {
				if !yield(" " + digits(point) + " " + mark(c, ahead+1)) {
					return
				}
			}
		}
	}
}

func mark(c api.Case, place int) string {
	if _, found := slices.BinarySearch(c.Breaks, place); found {
		return boundary
	}
	return noBoundary
}

func digits(point int) string {
	few := strings.ToUpper(strconv.FormatInt(int64(point), 16))
	return strings.Repeat("0", max(0, minDigits-len(few))) + few
}
