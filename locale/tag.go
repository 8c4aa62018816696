package locale

import (
	"strings"

	"caesura/api"
	"caesura/bundle"
)

// root is the one form of the root's tag.
const root = "root"

const (
	regionSize = 2 // letters of a part that is written great, as a region is
	scriptSize = 4 // letters of a part whose first is great, as a script's is
)

// isTag asks the layer that says what a tag is.
func isTag(form string) bool {
	alone := api.Bundle{Sections: []api.Section{{Locale: form}}}
	return bundle.Check(alone) == nil
}

// oneForm is that of a tag. Of any other text it makes no tag either: what it makes a letter of was one, what it makes _ of was - or _.
func oneForm(text string) string {
	parts := strings.Split(strings.ReplaceAll(text, "-", "_"), "_")
	var form strings.Builder
	for i, part := range parts {
		if i > 0 {
			form.WriteByte('_')
		}
		form.WriteString(partForm(part, i == 0))
	}
	return form.String()
}

func partForm(part string, first bool) string {
	letters := isLetters(part)
	switch {
	case first:
		return small(part)
	case letters && len(part) == regionSize:
		return strings.ToUpper(part)
	case letters && len(part) == scriptSize:
		return strings.ToUpper(part[:1]) + small(part[1:])
	default:
		return small(part)
	}
}

// withoutLast is a locale that is not the root, cut by its last part.
func withoutLast(locale string) string {
	at := strings.LastIndexByte(locale, '_')
	if at < 0 {
		return root
	}
	return locale[:at]
}

// small is asked of texts that are no tags too: there strings.ToLower would make a letter of a sign that is none here (212A).
func small(text string) string {
	return strings.Map(func(r rune) rune {
		if isGreat(r) {
			return r - 'A' + 'a'
		}
		return r
	}, text)
}

func isLetters(text string) bool {
	return !strings.ContainsFunc(text, func(r rune) bool { return !isSmall(r) && !isGreat(r) })
}

func isSmall(r rune) bool { return 'a' <= r && r <= 'z' }

func isGreat(r rune) bool { return 'A' <= r && r <= 'Z' }
