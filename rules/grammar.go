package rules

import (
	"strings"

	"caesura/api"
)

// written is a set as a line writes it. What its words stand for is asked only when the whole line is known to be one.
type written struct {
	bracketed, not bool
	words          []string
	points         []api.Range // they may run the wrong way
}

// key is the same of sets that are written alike, and of no others.
func (w written) key() string {
	var text strings.Builder
	if w.not {
		text.WriteString("^")
	}
	text.WriteString(strings.Join(w.words, " "))
	for _, p := range w.points {
		text.WriteString(rangeText(p))
	}
	return text.String()
}

// side is an expression as a line writes it. The sets in its form are empty: they stand apart, in their order, so that its size is known ahead of theirs.
type side struct {
	form api.Expr
	sets []written
}

// scanner goes through the tokens of a line, and sees one ahead.
type scanner struct {
	next  func() token
	ahead token
	sets  []written // of the side that is read
}

func newScanner(line string) *scanner {
	s := &scanner{next: tokensOf(line)}
	s.take()
	return s
}

func (s *scanner) take() token {
	first := s.ahead
	s.ahead = s.next()
	return first
}

// takes takes a sign, if it is the next token. (No word looks like one.)
func (s *scanner) takes(text string) bool {
	there := s.ahead.text == text
	if there {
		s.take()
	}
	return there
}

func (s *scanner) mustTake(text string) {
	need(s.takes(text), api.ErrText)
}

func (s *scanner) mustTakeWord() string {
	first := s.take()
	need(first.sort == wordToken, api.ErrText)
	return first.text
}

func (s *scanner) mustEnd() {
	need(s.ahead.sort == lineEnd, api.ErrText)
}

// takeMark says whether there is a boundary.
func (s *scanner) takeMark() bool {
	if s.takes("<>") {
		return true
	}
	s.mustTake("><")
	return false
}

func (s *scanner) takeSide() side {
	s.sets = nil
	form := s.takeExpression()
	return side{form, s.sets}
}

func (s *scanner) takeExpression() api.Expr {
	rows := []api.Expr{s.takeRow()}
	for s.takes("|") {
		rows = append(rows, s.takeRow())
	}
	return joined(api.ExprAlt, rows)
}

func (s *scanner) takeRow() api.Expr {
	var pieces []api.Expr
	for s.isAtPiece() {
		if piece := s.takePiece(); piece.Kind != api.ExprEmpty {
			pieces = append(pieces, piece)
		}
	}
	if len(pieces) == 0 {
		return api.Expr{Kind: api.ExprEmpty}
	}
	return joined(api.ExprSeq, pieces)
}

// joined is one expression of a kind of more than one; the parts of one that is of that kind itself stand in its place.
func joined(kind int, list []api.Expr) api.Expr {
	if len(list) == 1 {
		return list[0]
	}
	whole := api.Expr{Kind: kind, Parts: make([]api.Expr, 0, len(list))}
	for _, e := range list {
		if e.Kind == kind {
			whole.Parts = append(whole.Parts, e.Parts...)
		} else {
			whole.Parts = append(whole.Parts, e)
		}
	}
	return whole
}

func (s *scanner) isAtPiece() bool {
	switch s.ahead.sort {
	case wordToken, pointToken:
		return true
	case signToken:
		return s.ahead.text == "(" || s.ahead.text == "["
	}
	return false
}

func (s *scanner) takePiece() api.Expr {
	piece := s.takeCore()
	for {
		kind := repeatKind(s.ahead)
		if kind == 0 {
			return piece
		}
		s.take()
		piece = api.Expr{Kind: kind, Parts: []api.Expr{piece}}
	}
}

// repeatKind is the kind that a sign behind a piece makes of it; 0 of other tokens.
func repeatKind(t token) int {
	switch t.text {
	case "*":
		return api.ExprStar
	case "+":
		return api.ExprPlus
	case "?":
		return api.ExprOpt
	}
	return 0
}

func (s *scanner) takeCore() api.Expr {
	if s.takes("(") {
		inner := s.takeExpression()
		s.mustTake(")")
		return inner
	}
	s.sets = append(s.sets, s.takeSet())
	return oneSet(api.Set{})
}

func (s *scanner) takeSet() written {
	var set written
	if !s.takes("[") {
		s.takeItem(&set)
		return set
	}
	set.bracketed = true
	set.not = s.takes("^")
	for !s.takes("]") {
		s.takeItem(&set)
	}
	return set
}

func (s *scanner) takeItem(set *written) {
	if s.ahead.sort != pointToken {
		set.words = append(set.words, s.mustTakeWord())
		return
	}
	low := s.take()
	high := low
	if s.takes("..") {
		high = s.take()
		need(high.sort == pointToken, api.ErrText)
	}
	set.points = append(set.points, api.Range{Low: low.number, High: high.number})
}
