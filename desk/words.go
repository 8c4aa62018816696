package desk

import (
	"strings"

	"caesura/api"
)

const (
	blank   = " "
	quote   = '"'
	escape  = '\\'
	comment = "#"
	digits  = "0123456789abcdef"
	// The first byte that stands for itself between quotes (the blank), the first one that does without, and the last one of both.
	firstQuoted = 0x20
	firstBare   = 0x21
	lastPlain   = 0x7E
)

// Words is the words of a line.
func Words(line string) ([]string, error) {
	var words []string
	for rest := strings.TrimLeft(line, blank); rest != ""; rest = strings.TrimLeft(rest, blank) {
		var word string
		var err error
		if word, rest, err = firstWord(rest); err != nil {
			return nil, err
		}
		words = append(words, word)
	}
	return words, nil
}

// Quote is a word as Words reads it back.
func Quote(word string) string {
	// Words reads a word that begins with a # and one with a backslash as well; but a line that begins with # is passed over.
	if isBare(word) && strings.IndexByte(word, escape) < 0 && !strings.HasPrefix(word, comment) {
		return word
	}
	var text strings.Builder
	text.WriteByte(quote)
	for i := range len(word) {
		writeQuoted(&text, word[i])
	}
	text.WriteByte(quote)
	return text.String()
}

// firstWord takes a word off the beginning of a text, and answers what stands behind it.
func firstWord(text string) (word, rest string, err error) {
	if text[0] == quote {
		return quotedWord(text)
	}
	word = text
	if end := strings.Index(text, blank); end >= 0 {
		word = text[:end]
	}
	if !isBare(word) {
		return "", "", api.ErrText
	}
	return word, text[len(word):], nil
}

// isBare: may a word stand without quotes?
func isBare(word string) bool {
	for i := range len(word) {
		if b := word[i]; b < firstBare || b > lastPlain || b == quote {
			return false
		}
	}
	return word != ""
}

// isPlain: does a byte stand for itself between quotes?
func isPlain(b byte) bool {
	return b >= firstQuoted && b <= lastPlain && b != quote && b != escape
}

// quotedWord takes a word with quotes off the beginning of a text, which is a quote.
func quotedWord(text string) (word, rest string, err error) {
	var read strings.Builder
	for i := 1; i < len(text); i++ {
		switch b := text[i]; {
		case b == quote:
			return endOfWord(read.String(), text[i+1:])
		case b == escape:
			meant, length := escaped(text[i+1:])
			if length == 0 {
				return "", "", api.ErrText
			}
			read.WriteByte(meant)
			i += length
		case isPlain(b):
			read.WriteByte(b)
		default:
			return "", "", api.ErrText
		}
	}
	return "", "", api.ErrText
}

// endOfWord: behind a closing quote stands a blank or nothing.
func endOfWord(word, rest string) (string, string, error) {
	if rest != "" && !strings.HasPrefix(rest, blank) {
		return "", "", api.ErrText
	}
	return word, rest, nil
}

// escaped is the byte that is meant by what stands behind a backslash, and how many bytes of it say so; none: it means nothing.
func escaped(text string) (meant byte, length int) {
	if text == "" {
		return 0, 0
	}
	switch text[0] {
	case quote, escape:
		return text[0], 1
	case 'n':
		return '\n', 1
	case 'x':
		if len(text) < 3 {
			return 0, 0
		}
		high, low := hexValue(text[1]), hexValue(text[2])
		if high < 0 || low < 0 {
			return 0, 0
		}
		return byte(high<<4 | low), 3
	}
	return 0, 0
}

// hexValue is below 0 for what is no hexadecimal digit.
func hexValue(digit byte) int {
	if digit >= 'A' && digit <= 'F' {
		digit += 'a' - 'A'
	}
	return strings.IndexByte(digits, digit)
}

func writeQuoted(text *strings.Builder, b byte) {
	switch {
	case b == quote || b == escape:
		text.WriteByte(escape)
		text.WriteByte(b)
	case b == '\n':
		text.WriteString(`\n`)
	case isPlain(b):
		text.WriteByte(b)
	default:
		text.WriteString(`\x`)
		text.WriteByte(digits[b>>4])
		text.WriteByte(digits[b&0xF])
	}
}
