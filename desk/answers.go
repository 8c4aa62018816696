package desk

import (
	"strconv"
	"strings"

	"caesura/api"
)

const (
	well      = "ok"
	at        = "at"
	maxDigits = 9
)

// refused is the answer that tells a refusal.
func refused(refusal error) string { return "error " + nameOf(refusal) }

func nameOf(refusal error) string {
	switch refusal {
	case api.ErrArg:
		return "arg"
	case api.ErrText:
		return "text"
	case api.ErrMany:
		return "many"
	case api.ErrShort:
		return "short"
	case api.ErrTwice:
		return "twice"
	case api.ErrOrder:
		return "order"
	case api.ErrLost:
		return "lost"
	case api.ErrCycle:
		return "cycle"
	case api.ErrSum:
		return "sum"
	case api.ErrForm:
		return "form"
	}
	return "end" // the one that is left
}

// numbers is a word and numbers behind it, a blank ahead of each.
func numbers(word string, list []int) string {
	text := []byte(word)
	for _, n := range list {
		text = strconv.AppendInt(append(text, blank...), int64(n), 10)
	}
	return string(text)
}

// quoted is a word and others behind it, as Quote has them, a blank ahead of each.
func quoted(word string, list []string) string {
	var text strings.Builder
	text.WriteString(word)
	for _, one := range list {
		text.WriteString(blank + Quote(one))
	}
	return text.String()
}

// number reads a number, which may have a sign.
func number(word string) (int, error) {
	unsigned, minus := strings.CutPrefix(word, "-")
	n, err := count(unsigned)
	if minus {
		n = -n
	}
	return n, err
}

// count reads a number without a sign.
func count(word string) (int, error) {
	n, err := strconv.ParseUint(word, 10, 64)
	if err != nil || len(word) > maxDigits {
		return 0, api.ErrArg
	}
	return int(n), nil
}
