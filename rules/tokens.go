package rules

import (
	"strconv"
	"strings"

	"caesura/api"
	"caesura/units"
)

const (
	blanks    = " \t"
	maxDigits = 6
)

// The sorts of tokens. What stands behind the last one of a line is a token too.
const (
	lineEnd = iota
	wordToken
	pointToken
	signToken
)

// token is a piece of a line: a word or a sign with its text, a point with its number.
type token struct {
	sort   int
	text   string
	number int
}

// No sign is the beginning of another one.
var signs = [...]string{"><", "<>", "..", "=", ":", "(", ")", "[", "]", "^", "$", "|", "*", "+", "?"}

// tokensOf hands out the tokens of a line, one with each call, and the line's end for ever behind them.
func tokensOf(line string) func() token {
	rest := line
	return func() token {
		rest = strings.TrimLeft(rest, blanks)
		if rest == "" || rest[0] == '#' {
			return token{}
		}
		var first token
		first, rest = cutToken(rest)
		return first
	}
}

// cutToken hands back the first token, and what is behind it.
func cutToken(text string) (token, string) {
	switch first := text[0]; {
	case isLetter(first):
		return cutWord(text)
	case first == '\'':
		return cutQuoted(text)
	case first == '\\':
		return cutNumber(text)
	}
	return cutSign(text)
}

func cutWord(text string) (token, string) {
	size := wordSize(text)
	need(size <= api.MaxName, api.ErrText)
	return token{sort: wordToken, text: text[:size]}, text[size:]
}

func cutQuoted(text string) (token, string) {
	unit, _ := units.Next(text, 1)
	need(unit.Point >= ' ' && unit.Point != 0x7F, api.ErrText)
	rest, closed := strings.CutPrefix(text[unit.End:], "'")
	need(closed, api.ErrText)
	return token{sort: pointToken, number: unit.Point}, rest
}

func cutNumber(text string) (token, string) {
	behind, begun := strings.CutPrefix(text, `\u{`)
	digits, rest, closed := strings.Cut(behind, "}")
	need(begun && closed && len(digits) <= maxDigits, api.ErrText)
	number, err := strconv.ParseUint(digits, 16, 64)
	need(err == nil && number <= api.MaxPoint, api.ErrText)
	return token{sort: pointToken, number: int(number)}, rest
}

func cutSign(text string) (token, string) {
	for _, s := range signs {
		if rest, ok := strings.CutPrefix(text, s); ok {
			return token{sort: signToken, text: s}, rest
		}
	}
	panic(fault{api.ErrText})
}

// isWord: is a text one word, and not too long?
func isWord(text string) bool {
	return text != "" && len(text) <= api.MaxName && wordSize(text) == len(text)
}

// wordSize is how many bytes of a text are its first word; 0, if it begins with none.
func wordSize(text string) int {
	size := 0
	for size < len(text) && (isLetter(text[size]) || size > 0 && isInWord(text[size])) {
		size++
	}
	return size
}

func isLetter(b byte) bool {
	return 'A' <= b && b <= 'Z' || 'a' <= b && b <= 'z'
}

// isInWord is asked of bytes that are no letters.
func isInWord(b byte) bool {
	return '0' <= b && b <= '9' || b == '_'
}
