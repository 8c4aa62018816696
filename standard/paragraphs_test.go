package standard_test

import (
	"fmt"
	"math/rand"
	"slices"
	"strings"
	"testing"

	"caesura/breaker"
	"caesura/standard"
)

// textOf is the text of letters.
func textOf(word []letter) string {
	var text strings.Builder
	for _, l := range word {
		text.WriteString(l.text)
	}
	return text.String()
}

// alone holds P24.4 of a text at each place behind the end of a paragraph, and tells at how many there is one.
func alone(t *testing.T, all []*breaker.Splitter, word []letter) int {
	t.Helper()
	count := 0
	for i := 1; i <= len(word); i++ {
		ahead := word[i-1].class
		if !is(ahead, "Sep", "LF") && (ahead != "CR" || i < len(word) && word[i].class == "LF") {
			continue
		}
		count++
		at, behind := len(textOf(word[:i])), textOf(word[i:])
		for _, s := range all {
			whole := s.Split(textOf(word))
			from := slices.Index(whole, at)
			if from < 0 {
				t.Fatalf("P24.4: Split(%q) = %v: no boundary at %d", textOf(word), whole, at)
			}
			want := s.Split(behind)
			var got []int
			for _, offset := range whole[from:] {
				got = append(got, offset-at)
			}
			if behind == "" {
				want = list(0)
			}
			if !slices.Equal(got, want) {
				t.Fatalf("P24.4: Split(%q) = %v: behind %d there are %v, want %v", textOf(word), whole, at, got, want)
			}
		}
	}
	return count
}

// lettersOf are those of a text of good units, with the classes that a splitter sees.
func lettersOf(s *breaker.Splitter, text string) []letter {
	var word []letter
	for i, kind := range s.Kinds(text) {
		word = append(word, letter{string([]rune(text)[i]), kind.Class})
	}
	return word
}

func TestP24_4_Paragraphs(t *testing.T) {
	r := rand.New(rand.NewSource(2404))
	count := 0
	for _, tag := range strings.Fields("root en en_GB en_AU de de_CH fr") {
		all := each(t, standard.Property(), standard.Sentences(), standard.Bundle(), tag)
		for _, text := range []string{"Mr.\nSmith came. He left.", "Mr.\r\nSmith", "Mr.\rSmith", "z.\u2028 B. So.", "Hi. \u2029 he", "Hi.\n\n\nyou. You", "\n", "\r", "\r\n", "\r\r\n\n\r", "U.\nS. U.S.\u0085A. B", "No.\u0301\n\u0301 A. a", "e.g.\n e.g. \nA", "p.\nex. p. ex. A"} {
			count += alone(t, all, lettersOf(all[0], text))
		}
		var letters []letter
		for _, piece := range []string{"Mr.", "U.S.", "z. B.", "z.", "d. h.", "p. ex.", "M.", "St.", "Str.", ".", "?", " ", "  ", "a", "B", "\u0301", "\u00ad", ")", ",", "3"} {
			letters = append(letters, letter{piece, "many"})
		}
		letters = append(letters, lettersOf(all[0], "\n\n\r\r\u2028\u2029\u0085")...)
		for range 500 {
			var word []letter
			for range r.Intn(30) {
				l := letters[r.Intn(len(letters))]
				if l.class == "many" {
					word = append(word, lettersOf(all[0], l.text)...)
				} else {
					word = append(word, l)
				}
			}
			count += alone(t, all, word)
		}
	}
	if count < 10000 {
		t.Errorf("P24.4: only %d ends of paragraphs", count)
	}
}

// entriesOf is a bundle with drawn entries of good units that end no paragraph, and these entries.
func entriesOf(r *rand.Rand, letters []letter) (string, [][]letter) {
	may := slices.DeleteFunc(slices.Clone(letters), func(l letter) bool {
		return is(l.class, "CR", "LF", "Sep") || strings.Contains("\xff\x80", l.text)
	})
	ends := only(may, "ATerm", "STerm", "Sp", "Close")
	var file strings.Builder
	var entries [][]letter
	file.WriteString("[en]\n")
	for range 1 + r.Intn(8) {
		entry := append(some(r, may, 3), may[r.Intn(len(may))])
		if len(ends) > 0 {
			entry = append(entry, ends[r.Intn(len(ends))])
		}
		entries = append(entries, entry)
		file.WriteString("+ ")
		for _, point := range textOf(entry) {
			fmt.Fprintf(&file, "\\u{%x}", point)
		}
		file.WriteString("\n")
	}
	return file.String(), entries
}

// With any property file and any entries that hold no end of a paragraph.
func TestP24_4_Drawn(t *testing.T) {
	r := rand.New(rand.NewSource(2405))
	count, hidden := 0, 0
	for range 40 {
		file, letters := property(r, kinds()[0].classes)
		bundle, entries := entriesOf(r, letters)
		all := each(t, file, standard.Sentences(), bundle, "en")
		none := built(t, file, standard.Sentences(), "", "en", 0)
		separators := only(letters, "CR", "LF", "Sep")
		near := only(letters, "ATerm", "STerm", "Sp", "Upper")
		for range 30 {
			word := some(r, letters, 12)
			for range r.Intn(8) {
				word = slices.Concat(word, entries[r.Intn(len(entries))], some(r, append(near[:len(near):len(near)], letters[0]), 3))
				word = append(word, separators[r.Intn(len(separators)+1):]...)
				word = append(word, some(r, letters, 2)...)
			}
			count += alone(t, all, word)
			hidden += len(none.Split(textOf(word))) - len(all[0].Split(textOf(word)))
		}
	}
	if count < 5000 || hidden < 500 {
		t.Errorf("P24.4: only %d ends of paragraphs, %d boundaries that entries hide", count, hidden)
	}
}

// What the promise does not speak of: a CR that an LF follows ends no paragraph, and an entry that holds an end of one reaches over it.
func TestP24_4_Edges(t *testing.T) {
	splits(t, "P24.3", each(t, standard.Property(), standard.Sentences(), standard.Bundle(), "en"), "A.\r\n\r\rB", 0, 4, 5, 6, 7)
	over := each(t, standard.Property(), standard.Sentences(), "[en]\n+ A.\\u{a}B!\n", "en")
	splits(t, "P24.3", over, "A.\nB! C", 0, 3, 7)
	splits(t, "P24.3", over, "B! C", 0, 3, 4)
}
