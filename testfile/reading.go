package testfile

import (
	"strconv"
	"strings"

	"caesura/api"
)

const (
	boundary   = "÷"
	noBoundary = "×"
	blanks     = " \t"
	minDigits  = 4
	maxDigits  = 6
)

// fault is what is wrong with a line, and the refusal by which the face tells it.
type fault struct {
	line    int
	refusal error
}

func (f fault) Error() string { return "line " + strconv.Itoa(f.line) + ": " + f.refusal.Error() }

func (f fault) Unwrap() error { return f.refusal }

// readFile reads all lines; an error of it is a fault.
func readFile(text string) ([]api.Case, error) {
	var l []api.Case
	number := 0
	for line := range strings.Lines(text) {
		number++
		r := reader{number: number, rest: bare(line)}
		if r.rest == "" {
			continue
		}
		if err := r.read(); err != nil {
			return nil, err
		}
		if len(l) == api.MaxCases {
			return nil, r.fault(api.ErrMany)
		}
		l = append(l, r.made)
	}
	return l, nil
}

// bare is a line without its end, its comment and the blanks at both its ends. A 0D that the file's end follows ends no line, so it stays.
func bare(line string) string {
	line, ended := strings.CutSuffix(line, "\n")
	if ended {
		line = strings.TrimSuffix(line, "\r")
	}
	line, _, _ = strings.Cut(line, "#")
	return strings.Trim(line, blanks)
}

// state takes the next word of a line, and answers the state that takes the one behind it; nil: there is none behind it.
type state func(*reader) (state, error)

// reader reads one line.
type reader struct {
	number int    // the line's
	rest   string // what is not read yet; no blank stands at its ends
	next   state
	made   api.Case
}

// read asks about the points last: a line that is not of the grammar is refused for that, whatever its points are.
func (r *reader) read() error {
	r.next = (*reader).mark
	for r.next != nil {
		var err error
		if r.next, err = r.next(r); err != nil {
			return err
		}
	}
	if !allScalar(r.made.Points) {
		return r.fault(api.ErrArg)
	}
	return nil
}

func (r *reader) fault(refusal error) error { return fault{line: r.number, refusal: refusal} }

// word takes the next word. Blanks stand between all words, so a word that is not just a mark or a point is a fault.
func (r *reader) word() string {
	word := r.rest
	if end := strings.IndexAny(word, blanks); end >= 0 {
		word = word[:end]
	}
	r.rest = strings.TrimLeft(r.rest[len(word):], blanks)
	return word
}

// mark is the state ahead of a mark: a line ends with one.
func (r *reader) mark() (state, error) {
	switch r.word() {
	case boundary:
		r.made.Breaks = append(r.made.Breaks, len(r.made.Points))
	case noBoundary:
	default:
		return nil, r.fault(api.ErrText)
	}
	if r.rest == "" {
		return nil, nil
	}
	return (*reader).point, nil
}

// point is the state ahead of a point: a mark stands behind each.
func (r *reader) point() (state, error) {
	word := r.word()
	if len(word) < minDigits || len(word) > maxDigits {
		return nil, r.fault(api.ErrText)
	}
	point, err := strconv.ParseUint(word, 16, 64)
	if err != nil {
		return nil, r.fault(api.ErrText)
	}
	r.made.Points = append(r.made.Points, int(point))
	return (*reader).mark, nil
}
