package pair

import (
	"slices"

	"caesura/alphabet"
	"caesura/api"
	"caesura/expr"
	"caesura/machine"
	"caesura/minimal"
	"caesura/places"
)

// numbered is a numbered rule: what each of the machines looks for, and what it says.
type numbered struct {
	ahead, behind api.Pattern
	breaks        bool
}

func (n numbered) left() api.Pattern { return n.ahead }

func (n numbered) right() api.Pattern { return n.behind }

// numbering gathers the numbered rules in their order. Their patterns share lists, which nobody changes.
type numbering struct {
	alphabet *alphabet.Alphabet
	list     []numbered
}

// numberedOf takes rules and entries that may be.
func numberedOf(r api.Rules, entries [][]int, a *alphabet.Alphabet) ([]numbered, error) {
	n := &numbering{alphabet: a}
	before := max(r.Suppress, 0)
	if err := n.addRules(r.Rules[:before]); err != nil {
		return nil, err
	}
	for _, entry := range entries {
		if err := n.addEntry(entry, r.Trail); err != nil {
			return nil, err
		}
	}
	if err := n.addRules(r.Rules[before:]); err != nil {
		return nil, err
	}
	return n.list, nil
}

func (n *numbering) addRules(list []api.Rule) error {
	for _, rule := range list {
		left, err := places.Of(rule.Left, n.alphabet)
		if err != nil {
			return err
		}
		right, err := places.Of(rule.Right, n.alphabet)
		if err != nil {
			return err
		}
		n.list = append(n.list, numbered{
			ahead:  api.Pattern{Positions: left, Anchored: rule.Start},
			behind: api.Pattern{Positions: places.Reverse(right), Anchored: rule.End},
			breaks: rule.Break,
		})
	}
	return nil
}

func (n *numbering) addEntry(entry []int, trail api.Set) error {
	if err := n.addCuts(entry); err != nil {
		return err
	}
	left, err := places.Of(withTrail(entry, trail), n.alphabet)
	if err != nil {
		return err
	}
	right, err := places.Of(expr.Word(nil), n.alphabet)
	if err != nil {
		return err
	}
	n.addNoBreak(left, right)
	return nil
}

// addCuts makes the places of all points once, forward and back: there may be a million points in the cuts of all entries, and each side of a cut is the beginning of one of these rows.
func (n *numbering) addCuts(entry []int) error {
	count := len(entry)
	if count == 1 {
		// There is no cut, and what a cut asks for must not be asked for ahead of the whole entry.
		return nil
	}
	row, err := places.Of(expr.Word(entry), n.alphabet)
	if err != nil {
		return err
	}
	turned := slices.Clone(entry)
	slices.Reverse(turned)
	back, err := places.Of(expr.Word(turned), n.alphabet)
	if err != nil {
		return err
	}
	for cut := 1; cut < count; cut++ {
		n.addNoBreak(beginning(row, cut), beginning(back, count-cut))
	}
	return nil
}

func (n *numbering) addNoBreak(left, right api.Positions) {
	n.list = append(n.list, numbered{ahead: api.Pattern{Positions: left}, behind: api.Pattern{Positions: right}})
}

// beginning is the first so many places of a row of points; none follows the last of them.
func beginning(row api.Positions, count int) api.Positions {
	follow := slices.Clone(row.Follow[:count])
	follow[count-1] = nil
	return api.Positions{Letters: row.Letters[:count], First: row.First, Last: []int{count - 1}, Follow: follow}
}

// withTrail is an entry's points, and behind them any number of units of trail.
func withTrail(entry []int, trail api.Set) api.Expr {
	var parts []api.Expr
	for i := range entry {
		parts = append(parts, expr.Word(entry[i:i+1]))
	}
	unit := api.Expr{Kind: api.ExprSet, Set: trail}
	parts = append(parts, api.Expr{Kind: api.ExprStar, Parts: []api.Expr{unit}})
	return api.Expr{Kind: api.ExprSeq, Parts: parts}
}

func breaksOf(list []numbered) []bool {
	breaks := make([]bool, len(list))
	for i := range list {
		breaks[i] = list[i].breaks
	}
	return breaks
}

// leastMachine is the least machine of one side of all numbered rules.
func leastMachine(list []numbered, side func(numbered) api.Pattern, symbols int) (api.Machine, error) {
	patterns := make([]api.Pattern, len(list))
	for i := range list {
		patterns[i] = side(list[i])
	}
	m, err := machine.Build(patterns, symbols, api.MaxStates)
	if err != nil {
		return api.Machine{}, err
	}
	least, err := minimal.Of(m, symbols)
	if err != nil {
		return api.Machine{}, err
	}
	if countOf(least.Out) > api.MaxOuts {
		return api.Machine{}, api.ErrMany
	}
	return least, nil
}

func countOf(lists [][]int) int {
	count := 0
	for _, list := range lists {
		count += len(list)
	}
	return count
}
