package desk

import (
	"strconv"

	"caesura/api"
	"caesura/cursor"
)

func (d *desk) newCursor(words []string) (string, error) {
	d.cursor = cursor.New(d.splitter, words[0])
	return well, nil
}

func (d *desk) first([]string) (string, error) { return stands(d.cursor.First()), nil }

func (d *desk) last([]string) (string, error) { return stands(d.cursor.Last()), nil }

func (d *desk) next([]string) (string, error) { return stands(d.cursor.Next()), nil }

func (d *desk) previous([]string) (string, error) { return stands(d.cursor.Previous()), nil }

func (d *desk) current([]string) (string, error) { return stands(d.cursor.Current()), nil }

func (d *desk) following(words []string) (string, error) { return goes(d.cursor.Following, words[0]) }

func (d *desk) preceding(words []string) (string, error) { return goes(d.cursor.Preceding, words[0]) }

func (d *desk) move(words []string) (string, error) { return goes(d.cursor.Move, words[0]) }

func (d *desk) isBoundary(words []string) (string, error) {
	n, err := number(words[0])
	if err != nil {
		return "", err
	}
	if d.cursor.IsBoundary(n) {
		return "yes", nil
	}
	return "no", nil
}

func (d *desk) part([]string) (string, error) {
	return quoted("part", []string{d.cursor.Part()}), nil
}

// goes asks a call of the cursor, if the word is a number.
func goes(call func(int) int, word string) (string, error) {
	n, err := number(word)
	if err != nil {
		return "", err
	}
	return stands(call(n)), nil
}

// stands is what a cursor answers.
func stands(offset int) string {
	if offset == api.Done {
		return "done"
	}
	return at + blank + strconv.Itoa(offset)
}
