package bundle

import (
	"strings"

	"caesura/api"
)

// root is the one form of the root's tag.
const root = "root"

const (
	minFirst = 2 // letters of a tag's first part
	maxPart  = 8 // bytes of each part
)

// oneForm is that of a tag; false: the text is none.
func oneForm(text string) (string, bool) {
	if len(text) > api.MaxTag {
		return "", false
	}
	parts := strings.Split(strings.ReplaceAll(text, "-", "_"), "_")
	if len(parts[0]) < minFirst || !isAll(parts[0], isLetter) {
		return "", false
	}
	for i, part := range parts {
		if part == "" || len(part) > maxPart || !isAll(part, isLetterOrDigit) {
			return "", false
		}
		parts[i] = partForm(part, i == 0)
	}
	if parts[0] == root && len(parts) > 1 {
		return "", false
	}
	return strings.Join(parts, "_"), true
}

func isOneForm(text string) bool {
	tag, ok := oneForm(text)
	return ok && tag == text
}

func partForm(part string, first bool) string {
	small, great := strings.ToLower(part), strings.ToUpper(part)
	switch {
	case first || !isAll(part, isLetter):
		return small
	case len(part) == 2:
		return great
	case len(part) == 4:
		return great[:1] + small[1:]
	}
	return small
}

func isAll(text string, kind func(byte) bool) bool {
	for i := range len(text) {
		if !kind(text[i]) {
			return false
		}
	}
	return true
}

func isLetter(b byte) bool { return 'A' <= b && b <= 'Z' || 'a' <= b && b <= 'z' }

func isLetterOrDigit(b byte) bool { return isLetter(b) || '0' <= b && b <= '9' }
