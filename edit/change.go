package edit

import (
	"cmp"
	"strings"
)

// change takes the bytes from one offset up to another out of a text, and puts a text in their place.
type change struct {
	from, to int
	text     string
}

// of is the text behind the change.
func (c change) of(text string) string { return text[:c.from] + c.text + text[c.to:] }

// reverse is the change that takes this one back; text is the one ahead of it.
func (c change) reverse(text string) change {
	// A mere piece of the text would keep all of it in memory.
	taken := strings.Clone(text[c.from:c.to])
	return change{from: c.from, to: c.from + len(c.text), text: taken}
}

// image is where an offset of the text ahead of the change lies behind it; false: nowhere.
func (c change) image(offset int) (int, bool) {
	switch {
	case offset <= c.from:
		return offset, true
	case offset >= c.to:
		return offset - c.to + c.from + len(c.text), true
	}
	return 0, false
}

// order holds the image of an old offset against one of the text behind the change. What has none is equal to nothing; being below all, it is passed over by a walk without a step in the other list.
func (c change) order(old, now int) int {
	image, ok := c.image(old)
	if !ok {
		return -1
	}
	return cmp.Compare(image, now)
}

// without is those of a rising list that have no equal in another one. What was equal stays in the other list, for the next one may be equal to it too: two offsets can have one image.
func without[A, B any](list []A, others []B, order func(A, B) int) []A {
	var alone []A
	for _, one := range list {
		for len(others) > 0 && order(one, others[0]) > 0 {
			others = others[1:]
		}
		if len(others) == 0 || order(one, others[0]) != 0 {
			alone = append(alone, one)
		}
	}
	return alone
}
