package bundle

import (
	"strconv"
	"strings"

	"caesura/api"
	"caesura/units"
)

const (
	blanks    = " \t"
	maxDigits = 6
)

// fault is what reading panics with, so that no other panic is taken for a line that is refused.
type fault struct {
	err error
}

// giveUp ends the reading, however deep in a line it is.
func giveUp(err error) {
	panic(fault{err})
}

func need(ok bool, otherwise error) {
	if !ok {
		giveUp(otherwise)
	}
}

func faultOf(caught any) fault {
	f, ours := caught.(fault)
	if !ours {
		panic(caught)
	}
	return f
}

// reading is what the lines up to here have said.
type reading struct {
	line     int // the number of the one that is read
	sections []api.Section
	edits    int // of all sections together
}

// takeAll takes line by line. A 0D that the file's end follows ends no line, so it stays.
func (r *reading) takeAll(text string) {
	for rest, ended := text, true; ended; {
		var line string
		line, rest, ended = strings.Cut(rest, "\n")
		if ended {
			line = strings.TrimSuffix(line, "\r")
		}
		r.line++
		r.take(strings.Trim(withoutComment(line), blanks))
	}
}

// lineKind is what lines of a kind begin with, and what reads the rest of them.
type lineKind struct {
	first string
	read  func(behind string)
}

// take reads a line that has neither a comment nor blanks at its ends.
func (r *reading) take(line string) {
	if line == "" {
		return
	}
	kinds := [...]lineKind{
		{"[", r.takeHead},
		{"parent", r.takeParent},
		{"+", func(behind string) { r.takeEdit(true, behind) }},
		{"-", func(behind string) { r.takeEdit(false, behind) }},
	}
	for _, kind := range kinds {
		if behind, ok := strings.CutPrefix(line, kind.first); ok {
			kind.read(behind)
			return
		}
	}
	giveUp(api.ErrText)
}

func (r *reading) takeHead(behind string) {
	inside, closed := strings.CutSuffix(behind, "]")
	need(closed, api.ErrText)
	locale := readTag(strings.Trim(inside, blanks))
	need(len(r.sections) < api.MaxSections, api.ErrMany)
	need(!hasSection(r.sections, locale), api.ErrTwice)
	r.sections = append(r.sections, api.Section{Locale: locale})
}

func (r *reading) takeParent(behind string) {
	tag := strings.TrimLeft(behind, blanks)
	need(len(tag) < len(behind), api.ErrText)
	parent := readTag(tag)
	s := r.section()
	need(s.Locale != root, api.ErrArg)
	need(s.Parent == "", api.ErrTwice)
	need(len(s.Edits) == 0, api.ErrOrder)
	s.Parent = parent
}

func (r *reading) takeEdit(add bool, behind string) {
	points := readPoints(strings.TrimLeft(behind, blanks))
	entry, err := units.Encode(points)
	need(err == nil && len(points) > 0, api.ErrText)
	s := r.section()
	need(len(points) <= api.MaxEntry && r.edits < api.MaxEdits, api.ErrMany)
	s.Edits = append(s.Edits, api.Edit{Add: add, Entry: entry})
	r.edits++
}

// section is the one to which a line belongs.
func (r *reading) section() *api.Section {
	need(len(r.sections) > 0, api.ErrText)
	return &r.sections[len(r.sections)-1]
}

// withoutComment is a line up to the first # that is not part of an escape. What stands behind a backslash is passed over unseen: it is part of an escape, or the line is at fault anyway.
func withoutComment(line string) string {
	for at := 0; at < len(line); at++ {
		switch line[at] {
		case '#':
			return line[:at]
		case '\\':
			at++
		}
	}
	return line
}

func readTag(text string) string {
	tag, ok := oneForm(text)
	need(ok, api.ErrText)
	// A copy, lest a tag hold the whole text in memory.
	return strings.Clone(tag)
}

// readPoints reads a written entry from the left. Whether a number is one that a text can hold is not asked here.
func readPoints(written string) []int {
	var points []int
	for rest := written; rest != ""; {
		var point int
		point, rest = readPoint(rest)
		points = append(points, point)
	}
	return points
}

// readPoint reads what stands for the first point, and hands back what is behind it.
func readPoint(text string) (int, string) {
	unit, _ := units.Next(text, 0)
	if unit.Point == '\\' {
		return readEscape(text)
	}
	need(unit.Point != api.Bad && !isControl(unit.Point), api.ErrText)
	return unit.Point, text[unit.End:]
}

// escape is what stands in a written entry for a point.
type escape struct {
	written string
	point   int
}

func readEscape(text string) (int, string) {
	escapes := [...]escape{
		{`\\`, '\\'},
		{`\#`, '#'},
		{`\s`, ' '},
	}
	for _, e := range escapes {
		if rest, ok := strings.CutPrefix(text, e.written); ok {
			return e.point, rest
		}
	}
	return readNumber(text)
}

func readNumber(text string) (int, string) {
	behind, begun := strings.CutPrefix(text, `\u{`)
	digits, rest, closed := strings.Cut(behind, "}")
	need(begun && closed && len(digits) <= maxDigits, api.ErrText)
	number, err := strconv.ParseUint(digits, 16, 64)
	need(err == nil, api.ErrText)
	return int(number), rest
}
