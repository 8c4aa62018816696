package explain_test

import (
	"fmt"
	"slices"
	"sync"
	"testing"

	"caesura/api"
	"caesura/explain"
)

// roomy is a list with spare room, in which something stands.
func roomy[T any](l []T, spare ...T) []T { return append(slices.Clone(l), spare...)[:len(l)] }

func roomyExpr(e api.Expr) api.Expr {
	parts := slices.Clone(e.Parts)
	for i, part := range parts {
		parts[i] = roomyExpr(part)
	}
	return api.Expr{Kind: e.Kind, Set: roomySet(e.Set), Parts: roomy(parts, api.Expr{Kind: 71}, api.Expr{Kind: 72})}
}

func roomySet(s api.Set) api.Set {
	return api.Set{Not: s.Not, Names: roomy(s.Names, "spare"), Points: roomy(s.Points, api.Range{Low: 71, High: 72})}
}

// whole shows an expression, and what stands in its spare room.
func whole(e api.Expr) string {
	text := fmt.Sprint(e.Kind, e.Set.Not, e.Set.Names[:cap(e.Set.Names)], e.Set.Points[:cap(e.Set.Points)])
	for _, part := range e.Parts[:cap(e.Parts)] {
		text += "(" + whole(part) + ")"
	}
	return text
}

// handed is all that the calls are handed, each list with spare room.
type handed struct {
	r       api.Rules
	entries []string
	kinds   []api.Kind
	words   [][]api.Kind
}

func build(t *testing.T) handed {
	r := parsed(t, "A: ^ (Upper Lower+)? ATerm Sp* >< Lower ('b' | [^ 'c' Sp])*\nskip 'y'\nB: ATerm >< Sp\nsuppress [Sp 'z']\nD: ATerm Sp* <> [^]* $\nF: 'q' <>\nE: [^]* 'b' <>\nelse ><")
	for i, one := range r.Rules {
		r.Rules[i].Left, r.Rules[i].Right = roomyExpr(one.Left), roomyExpr(one.Right)
	}
	r.Rules = roomy(r.Rules, api.Rule{Name: "spare"}, api.Rule{Name: "spare"})
	r.Trail = roomySet(r.Trail)
	kinds := roomy(kindsOf("Ab. cab. Mr. Bac. Xzz. C"), api.Kind{Class: "spare"}, api.Kind{Class: "spare"})
	words := [][]api.Kind{kinds, kinds[:5], roomy(kindsOf("a. b"), api.Kind{Class: "spare"}), nil}
	return handed{r, roomy([]string{"Mr.", "", "c.", "ac. X"}, "spare", "spare"), kinds, roomy(words, nil, nil)}
}

func (h handed) shown() string {
	text := fmt.Sprint(len(h.r.Rules), h.r.Suppress, h.r.Else, whole(api.Expr{Set: h.r.Trail}))
	for _, one := range h.r.Rules[:cap(h.r.Rules)] {
		text += fmt.Sprint(one.Name, one.Start, one.End, one.Break, whole(one.Left), whole(one.Right))
	}
	text += fmt.Sprintf("%q", h.entries[:cap(h.entries)])
	for _, kinds := range h.words[:cap(h.words)] {
		text += fmt.Sprint(kinds[:cap(kinds)])
	}
	return text
}

// ask is every call, and what it answers.
func (h handed) ask() string {
	var text string
	for place := range len(h.kinds) + 1 {
		x, err := explain.Why(h.r, h.entries, h.kinds, place)
		line, refusal := explain.Print(h.r, x)
		text += fmt.Sprint(x, err, line, refusal)
	}
	return text + fmt.Sprint(explain.All(h.r, h.entries, h.kinds), explain.Idle(h.r, h.entries, h.words))
}

// What is handed in is not changed, spare room neither; the same calls answer the same.
func TestP27_8_Arguments(t *testing.T) {
	h := build(t)
	was, first := h.shown(), h.ask()
	for range 3 {
		if again := h.ask(); again != first {
			t.Fatalf("P0.2: %s, and ahead of it %s", again, first)
		}
	}
	if now := h.shown(); now != was {
		t.Errorf("P27.8: what is handed in was %s and is %s", was, now)
	}
	fresh := build(t)
	all, idle := explain.All(h.r, h.entries, h.kinds), explain.Idle(h.r, h.entries, h.words)
	wanted := fmt.Sprint(all, idle)
	for _, one := range h.r.Rules[:cap(h.r.Rules)] {
		for i := range one.Left.Parts {
			one.Left.Parts[i] = api.Expr{}
		}
	}
	clear(h.r.Rules)
	clear(h.entries)
	clear(h.kinds)
	if now := fmt.Sprint(all, idle); now != wanted {
		t.Errorf("P27.8: an answer hangs on what was handed in: %s, was %s", now, wanted)
	}
	if got := fresh.ask(); got != first {
		t.Errorf("P27.8: something is kept: %s, was %s", got, first)
	}
}

// Who writes into an answer, or appends to it, changes nothing else.
func TestP27_8_Answers(t *testing.T) {
	h := build(t)
	was, first := h.shown(), h.ask()
	all, idle := explain.All(h.r, h.entries, h.kinds), explain.Idle(h.r, h.entries, h.words)
	if len(all) == 0 || len(idle) == 0 {
		t.Fatalf("%v, %v", all, idle)
	}
	other := slices.Clone(all)
	again := explain.All(h.r, h.entries, h.kinds)
	clear(all[:cap(all)])
	for i := range idle[:cap(idle)] {
		idle[:cap(idle)][i] = -7
	}
	_, _ = append(all, api.Reason{Rule: 7}), append(idle, 7)
	if !slices.Equal(again, other) {
		t.Errorf("P27.8: two answers share memory")
	}
	if h.shown() != was || h.ask() != first {
		t.Errorf("P27.8: an answer shares memory with what is handed in, or is kept")
	}
}

// P0.2: the same calls answer the same, beside one another too.
func TestP0_2_AtOnce(t *testing.T) {
	h := build(t)
	first := h.ask()
	var asking sync.WaitGroup
	for range 8 {
		asking.Go(func() {
			for range 5 {
				if got := h.ask(); got != first {
					t.Errorf("P0.2: %s, want %s", got, first)
				}
			}
		})
	}
	asking.Wait()
}
