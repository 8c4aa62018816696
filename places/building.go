package places

import (
	"caesura/alphabet"
	"caesura/api"
)

// part is what is known of a part of an expression.
type part struct {
	empty       bool
	first, last placeSet
}

// rule makes what is known of an expression out of what is known of its Parts.
type rule func(b *builder, parts []part) part

// builder gathers which place follows which, while what is known of the parts is handed upwards.
type builder struct {
	rules  map[int]rule // by an expression's Kind
	follow []placeSet   // of each place
	met    int          // how many places were met so far
}

func newBuilder(places int) *builder {
	return &builder{
		rules: map[int]rule{
			api.ExprEmpty: ofEmpty,
			api.ExprSet:   ofSet,
			api.ExprSeq:   ofSeq,
			api.ExprAlt:   ofAlt,
			api.ExprStar:  ofStar,
			api.ExprPlus:  ofPlus,
			api.ExprOpt:   ofOpt,
		},
		follow: make([]placeSet, places),
	}
}

// partOf goes down as deep as expr.Check lets an expression be.
func (b *builder) partOf(e api.Expr) part {
	parts := make([]part, len(e.Parts))
	for i := range e.Parts {
		parts[i] = b.partOf(e.Parts[i])
	}
	return b.rules[e.Kind](b, parts)
}

func ofEmpty(*builder, []part) part { return part{empty: true} }

func ofSet(b *builder, _ []part) part {
	place := b.met
	b.met++
	return part{first: only(place), last: only(place)}
}

func ofSeq(b *builder, parts []part) part {
	b.chain(parts)
	whole := part{empty: true}
	for _, p := range parts {
		if whole.empty {
			whole.first.join(p.first)
		}
		whole.empty = whole.empty && p.empty
	}
	for i := len(parts) - 1; i >= 0; i-- {
		whole.last.join(parts[i].last)
		if !parts[i].empty {
			break
		}
	}
	return whole
}

func ofAlt(_ *builder, parts []part) part {
	var whole part
	for _, p := range parts {
		whole.empty = whole.empty || p.empty
		whole.first.join(p.first)
		whole.last.join(p.last)
	}
	return whole
}

func ofStar(b *builder, parts []part) part {
	whole := ofPlus(b, parts)
	whole.empty = true
	return whole
}

func ofPlus(b *builder, parts []part) part {
	b.link(parts[0].last, parts[0].first)
	return parts[0]
}

func ofOpt(_ *builder, parts []part) part {
	whole := parts[0]
	whole.empty = true
	return whole
}

// chain goes from the last Part to the first, as then what may come behind a Part is one set, whatever is Empty in between.
func (b *builder) chain(parts []part) {
	var behind placeSet
	for i := len(parts) - 1; i >= 0; i-- {
		b.link(parts[i].last, behind)
		if !parts[i].empty {
			behind = placeSet{}
		}
		behind.join(parts[i].first)
	}
}

// link lets all of next follow all of last.
func (b *builder) link(last, next placeSet) {
	for place := range last.each {
		b.follow[place].join(next)
	}
}

func (b *builder) followLists() ([][]int, error) {
	pairs := 0
	for _, s := range b.follow {
		pairs += s.count()
	}
	if pairs > api.MaxFollow {
		return nil, api.ErrMany
	}
	lists := make([][]int, len(b.follow))
	for place, s := range b.follow {
		lists[place] = s.list()
	}
	return lists, nil
}

// setsOf appends the sets of an expression's places, in the places' order.
func setsOf(e api.Expr, sets []api.Set) []api.Set {
	if e.Kind == api.ExprSet {
		sets = append(sets, e.Set)
	}
	for _, p := range e.Parts {
		sets = setsOf(p, sets)
	}
	return sets
}

// lettersOf asks for every set, above the limit too: a set that is lost is told first.
func lettersOf(sets []api.Set, a *alphabet.Alphabet) ([][]int, error) {
	lists := make([][]int, len(sets))
	cells := 0
	for place, s := range sets {
		list, err := a.Letters(s)
		if err != nil {
			return nil, err
		}
		cells += len(list)
		if cells <= api.MaxCells {
			lists[place] = list
		}
	}
	if cells > api.MaxCells {
		return nil, api.ErrMany
	}
	return lists, nil
}
