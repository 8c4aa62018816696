package stream_test

import (
	"bytes"
	"math/rand"
	"slices"
	"strings"
	"sync"
	"testing"

	"caesura/stream"
)

// spoil writes into a list, and behind its end.
func spoil(l []int) {
	l = l[:cap(l)]
	for i := range l {
		l[i] = -7
	}
}

// Who writes into an answer changes no later one, nor the splitter.
func TestP21_7_Answers(t *testing.T) {
	text := strings.Repeat("Hi. Mr. Fox. A. \xe2\x82\xff. Ok. ", 20)
	for _, s := range each(t, rulesFile, bundleFile) {
		before := s.Save()
		for _, size := range list(1, 5, 64, len(text)) {
			p := stream.New(s)
			var told []int
			for at := 0; at < len(text); at += size {
				l, _ := p.Feed(text[at:min(len(text), at+size)])
				told = append(told, l...)
				spoil(l)
			}
			l, _ := p.End()
			told = append(told, l...)
			spoil(l)
			if !slices.Equal(told, s.Split(text)) {
				t.Errorf("P21.7: in pieces of %d bytes: %v", size, told)
			}
		}
		if !bytes.Equal(s.Save(), before) {
			t.Error("P21.7: a stream changes its splitter")
		}
	}
}

// Streams of one splitter, fed in turn, answer as each alone would; what is done with the splitter's answers is no matter.
func TestP21_7_InTurn(t *testing.T) {
	d := rand.New(rand.NewSource(2107))
	for range 40 {
		rules, entries := drawnRules(d), drawnEntries(d)
		s := built(t, rules, bundleOf(entries), list(0, much)[d.Intn(2)])
		var texts [][]string
		var alone, inTurn [][]int
		var all []*stream.Stream
		for i := range 6 {
			texts = append(texts, pieces(d, drawnText(d, entries)))
			alone, inTurn, all = append(alone, nil), append(inTurn, nil), append(all, stream.New(s))
			p := stream.New(s)
			for _, piece := range texts[i] {
				l, _ := p.Feed(piece)
				alone[i] = append(append(alone[i], l...), p.Waiting())
			}
		}
		for round := range 60 {
			for i, p := range all {
				if round < len(texts[i]) {
					l, _ := p.Feed(texts[i][round])
					inTurn[i] = append(append(inTurn[i], l...), p.Waiting())
				}
			}
			x := s.Tables()
			for _, row := range x.Plain.Right.Next {
				spoil(row)
			}
			spoil(x.Trail)
			if round%5 == 0 {
				all[round/5%6].Waiting()
				stream.New(s).End()
			}
		}
		for i := range all {
			if !slices.Equal(alone[i], inTurn[i]) {
				t.Fatalf("P21.7: %q, %q, %q: %v, alone %v", rules, entries, texts[i], inTurn[i], alone[i])
			}
		}
	}
}

// Streams of one splitter are fed at once, each by one.
func TestP21_7_AtOnce(t *testing.T) {
	text := strings.Repeat("Hi. Mr. Fox. A. \xe2\x82\xac. ok. ", 60)
	for _, s := range each(t, rulesFile, bundleFile) {
		want := s.Split(text)
		answers := make([][]int, 12)
		var all sync.WaitGroup
		for i := range answers {
			all.Go(func() { answers[i] = fed(t, s, text, i+1) })
		}
		all.Wait()
		for _, got := range answers {
			if !slices.Equal(got, want) {
				t.Errorf("P21.7: %v, want %v", got, want)
			}
		}
	}
}
