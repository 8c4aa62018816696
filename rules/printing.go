package rules

import (
	"slices"
	"strconv"
	"strings"

	"caesura/api"
)

// printing is the text up to here, and how many round brackets are open in it. It gives up as soon as one of them is too much.
type printing struct {
	text strings.Builder
	deep int
}

func (p *printing) put(texts ...string) {
	for _, text := range texts {
		p.text.WriteString(text)
	}
	need(p.text.Len() <= api.MaxFile, api.ErrMany)
}

func (p *printing) putAll(r api.Rules) {
	for i, rule := range r.Rules {
		if i == r.Suppress {
			p.putSuppress(r.Trail)
		}
		p.putRule(rule)
	}
	if r.Suppress == len(r.Rules) {
		p.putSuppress(r.Trail)
	}
	p.put("else ", markOf(r.Else), "\n")
}

func markOf(breaks bool) string {
	if breaks {
		return "<>"
	}
	return "><"
}

func (p *printing) putSuppress(trail api.Set) {
	p.put("suppress")
	if !holdsNothing(trail) {
		p.put(" ")
		p.putSet(trail)
	}
	p.put("\n")
}

func (p *printing) putRule(rule api.Rule) {
	p.put(rule.Name, ": ")
	if rule.Start {
		p.put("^ ")
	}
	if rule.Left.Kind != api.ExprEmpty {
		p.putExpr(rule.Left)
		p.put(" ")
	}
	p.put(markOf(rule.Break))
	if rule.Right.Kind != api.ExprEmpty {
		p.put(" ")
		p.putExpr(rule.Right)
	}
	if rule.End {
		p.put(" $")
	}
	p.put("\n")
}

func (p *printing) putExpr(e api.Expr) {
	switch e.Kind {
	case api.ExprEmpty:
		p.open()
		p.close()
	case api.ExprSet:
		p.putSet(e.Set)
	case api.ExprSeq:
		p.putParts(e.Parts, " ", api.ExprAlt)
	case api.ExprAlt:
		p.putParts(e.Parts, " | ")
	default:
		p.putParts(e.Parts, "", api.ExprSeq, api.ExprAlt)
		p.put(repeatSign(e.Kind))
	}
}

// putParts puts round brackets around the parts that are of one of these kinds.
func (p *printing) putParts(parts []api.Expr, between string, bracketed ...int) {
	for i, part := range parts {
		if i > 0 {
			p.put(between)
		}
		if !slices.Contains(bracketed, part.Kind) {
			p.putExpr(part)
			continue
		}
		p.open()
		p.putExpr(part)
		p.close()
	}
}

func (p *printing) open() {
	p.deep++
	need(p.deep <= api.MaxNest, api.ErrMany)
	p.put("(")
}

func (p *printing) close() {
	p.deep--
	p.put(")")
}

func repeatSign(kind int) string {
	switch kind {
	case api.ExprStar:
		return "*"
	case api.ExprPlus:
		return "+"
	}
	return "?"
}

func (p *printing) putSet(s api.Set) {
	if !s.Not && len(s.Names)+len(s.Points) == 1 {
		p.putItems(s)
		return
	}
	p.put("[")
	if s.Not {
		p.put("^")
	}
	p.putItems(s)
	p.put("]")
}

// putItems puts the names and the ranges of a set, with a blank between each two.
func (p *printing) putItems(s api.Set) {
	between := ""
	for _, name := range s.Names {
		p.put(between, name)
		between = " "
	}
	for _, r := range s.Points {
		p.put(between, rangeText(r))
		between = " "
	}
}

func rangeText(r api.Range) string {
	if r.Low == r.High {
		return pointText(r.Low)
	}
	return pointText(r.Low) + ".." + pointText(r.High)
}

func pointText(point int) string {
	if '!' <= point && point <= '~' && point != '\'' {
		return "'" + string(rune(point)) + "'"
	}
	return `\u{` + strconv.FormatInt(int64(point), 16) + "}"
}
