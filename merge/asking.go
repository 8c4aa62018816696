package merge

import (
	"caesura/alphabet"
	"caesura/api"
	"caesura/pair"
	"caesura/rules"
)

// The names of rules that pair.Of is asked about.
const (
	askedName = "Asked"
	lostName  = "Lost"
)

// mayBe: is an ErrMany of pair.Of that of a machine, and not of the rules, of the entries or of their places? All of these pair.Of refuses ahead of the machines, one rule behind the other. So each part is asked about with a rule behind it whose set is lost: an ErrLost says that nothing else was to be refused.
func mayBe(r api.Rules, entries [][]int, a *alphabet.Alphabet) bool {
	if rules.Check(r) != nil {
		return false
	}
	lost := lostRule(a)
	for _, rule := range r.Rules {
		rule.Name = askedName
		asked := api.Rules{Rules: []api.Rule{rule, lost}, Suppress: -1}
		if !onlyLost(asked, nil, a) {
			return false
		}
	}
	if r.Suppress < 0 {
		return true
	}
	return onlyLost(api.Rules{Rules: []api.Rule{lost}, Trail: r.Trail}, entries, a)
}

func onlyLost(r api.Rules, entries [][]int, a *alphabet.Alphabet) bool {
	_, err := pair.Of(r, entries, a, 0)
	return err == api.ErrLost
}

// lostRule is a rule with a set that the alphabet was not made of.
func lostRule(a *alphabet.Alphabet) api.Rule {
	return api.Rule{
		Name:  lostName,
		Left:  api.Expr{Kind: api.ExprSet, Set: lostSet(a)},
		Right: api.Expr{Kind: api.ExprEmpty},
	}
}

// lostSet tries one set more than an alphabet may have, from the highest point down, as entries seldom have these.
func lostSet(a *alphabet.Alphabet) api.Set {
	point := api.MaxPoint
	for ; point > api.MaxPoint-api.MaxSets; point-- {
		if _, err := a.Letters(setOf(point)); err != nil {
			break
		}
	}
	return setOf(point)
}

func setOf(point int) api.Set {
	return api.Set{Points: []api.Range{{Low: point, High: point}}}
}
