package desk

import (
	"caesura/edit"
	"caesura/stream"
)

func (d *desk) newStream([]string) (string, error) {
	d.stream = stream.New(d.splitter)
	return well, nil
}

func (d *desk) feed(words []string) (string, error) { return tells(d.stream.Feed(words[0])) }

func (d *desk) end([]string) (string, error) { return tells(d.stream.End()) }

// tells is what a stream answers.
func tells(offsets []int, err error) (string, error) {
	if err != nil {
		return "", err
	}
	return numbers(at, offsets), nil
}

func (d *desk) newDocument(words []string) (string, error) {
	d.document = edit.New(d.splitter, words[0])
	return well, nil
}

func (d *desk) replace(words []string) (string, error) {
	from, err := number(words[0])
	if err != nil {
		return "", err
	}
	to, err := number(words[1])
	if err != nil {
		return "", err
	}
	gone, come, err := d.document.Replace(from, to, words[2])
	if err != nil {
		return "", err
	}
	return numbers("gone", gone) + blank + numbers("come", come), nil
}

func (d *desk) undo([]string) (string, error) {
	if err := d.document.Undo(); err != nil {
		return "", err
	}
	return well, nil
}

func (d *desk) text([]string) (string, error) {
	return quoted("text", []string{d.document.Text()}), nil
}

func (d *desk) breaks([]string) (string, error) { return numbers(at, d.document.Breaks()), nil }
