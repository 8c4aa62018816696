package edit_test

import (
	"math/rand"
	"slices"
	"sort"
	"strings"
	"testing"

	"caesura/api"
	"caesura/breaker"
	"caesura/bundle"
	"caesura/edit"
	"caesura/locale"
	"caesura/rules"
	"caesura/tables"
	"caesura/units"
)

func loaded(t *testing.T, x api.Tables) *breaker.Splitter {
	t.Helper()
	p, err := tables.Save(x)
	if err != nil {
		t.Fatal(err)
	}
	s, err := breaker.Load(p)
	if err != nil {
		t.Fatal(err)
	}
	return s
}

// second is a second version by the chapter's words: all texts that were, and their boundaries as sets.
type second struct {
	split func(text string) []int
	texts []string
}

func (s *second) text() string { return s.texts[len(s.texts)-1] }

// noImage is no offset.
const noImage = -1

func imageBy(o, a, b, difference int) int {
	if o <= a {
		return o
	}
	if o >= b {
		return o + difference
	}
	return noImage
}

func (s *second) replace(a, b int, put string) ([]int, []int, error) {
	text := s.text()
	if !(0 <= a && a <= b && b <= len(text)) {
		return nil, nil, api.ErrArg
	}
	now := text[:a] + put + text[b:]
	var gone, come []int
	images := map[int]bool{}
	ahead, behind := s.split(text), s.split(now)
	for _, o := range ahead {
		image := imageBy(o, a, b, len(now)-len(text))
		images[image] = true
		if image == noImage || !slices.Contains(behind, image) {
			gone = append(gone, o)
		}
	}
	for _, o := range behind {
		if !images[o] {
			come = append(come, o)
		}
	}
	s.texts = append(s.texts, now)
	return gone, come, nil
}

func (s *second) undo() error {
	if len(s.texts) == 1 {
		return api.ErrEnd
	}
	s.texts = s.texts[:len(s.texts)-1]
	return nil
}

// together holds a document and the second version against each other behind a call.
func together(t *testing.T, promise string, d *edit.Doc, s *second) {
	t.Helper()
	if d.Text() != s.text() || !slices.Equal(d.Breaks(), s.split(s.text())) {
		t.Fatalf("%s: %q, %v, want %q, %v", promise, d.Text(), d.Breaks(), s.text(), s.split(s.text()))
	}
}

// both makes a change in both, and holds the answers against each other.
func both(t *testing.T, d *edit.Doc, s *second, a, b int, put string) {
	t.Helper()
	ahead := s.text()
	gone, come, err := d.Replace(a, b, put)
	wantGone, wantCome, wantErr := s.replace(a, b, put)
	if !slices.Equal(gone, wantGone) || !slices.Equal(come, wantCome) || err != wantErr {
		t.Fatalf("P22.2: %q: Replace(%d, %d, %q) = %v, %v, %v, want %v, %v, %v", ahead, a, b, put, gone, come, err, wantGone, wantCome, wantErr)
	}
	together(t, "P22.4: behind a Replace", d, s)
	if err == nil {
		lawful(t, s.split(ahead), d.Breaks(), gone, come, func(o int) int { return imageBy(o, a, b, len(d.Text())-len(ahead)) })
	}
}

// P22.4: the images of what has not gone, and what has come, are together the boundaries.
func lawful(t *testing.T, ahead, behind, gone, come []int, image func(int) int) {
	t.Helper()
	set := map[int]bool{}
	for _, o := range ahead {
		if !slices.Contains(gone, o) {
			set[image(o)] = true
		}
	}
	for _, o := range come {
		if set[o] {
			t.Fatalf("P22.4: %d has come, and is the image of one that has not gone", o)
		}
		set[o] = true
	}
	var all []int
	for o := range set {
		all = append(all, o)
	}
	sort.Ints(all)
	if !slices.Equal(all, behind) {
		t.Fatalf("P22.4: gone %v of %v, come %v: together %v, want %v", gone, ahead, come, all, behind)
	}
}

// byWords is B(P, R, X, t), by the words of the rules and not by a splitter's engine; known texts are not asked again.
func byWords(t *testing.T, s *breaker.Splitter, file [2]string) func(text string) []int {
	t.Helper()
	r, _, err := rules.Parse(file[0])
	if err != nil {
		t.Fatal(err)
	}
	b, _, err := bundle.Parse(file[1])
	if err != nil {
		t.Fatal(err)
	}
	resolved, err := locale.Resolve(b, "en")
	if err != nil {
		t.Fatal(err)
	}
	var entries [][]int
	for _, entry := range resolved {
		var points []int
		for _, letter := range entry {
			points = append(points, int(letter))
		}
		entries = append(entries, points)
	}
	known := map[string][]int{}
	return func(text string) []int {
		if offsets, met := known[text]; met {
			return offsets
		}
		starts := list()
		for _, u := range units.Split(text) {
			starts = append(starts, u.Start)
		}
		starts = append(starts, len(text))
		var offsets []int
		for _, place := range rules.Breaks(r, entries, s.Kinds(text)) {
			offsets = append(offsets, starts[place])
		}
		known[text] = offsets
		return offsets
	}
}

// files are rules and bundles of several kinds: few boundaries, many, with entries in the way, and some that hang on the text's ends.
func files() [][2]string {
	return [][2]string{
		{rulesFile, "[root]\n+ Mr.\n+ A. b.\n"},
		{"A: ATerm <>\nelse ><", "[root]\n+ Mr.\n"},
		{"suppress\nelse <>", "[root]\n+ aa\n[en]\n+ é.\n"},
		{"else <>", ""},
		{"else ><", ""},
		{"A: ^ [^] <> [^]\nB: [^] <> [^] $\nelse ><", ""},
		{"A: ^ 'a' [^]* <> ATerm\nB: Lower <> [^]* 'A' $\nsuppress [^ 'a']\nC: [^] <> [^ Lower]\nelse ><", "[en]\n+ .a\n"},
	}
}

// Each change of each small text, and back again.
func TestP22_2_EachChange(t *testing.T) {
	letters := []string{"a", ".", "\xc3", "\xa9"}
	texts := []string{""}
	for i := 0; len(texts) < 1+4+16+64; i++ {
		for _, letter := range letters {
			texts = append(texts, texts[i]+letter)
		}
	}
	puts := append(slices.Clone(texts[:1+4+16]), "a.a", "é.")
	texts = append(texts, "aaaa", "a.a.", "é.a.", "aa\xc3aa", "a.aéaa.", "A. A. a. Mr. A")
	for _, file := range files() {
		for _, s := range each(t, file[0], file[1])[1:3] {
			split := byWords(t, s, file)
			for _, text := range texts {
				for a := range len(text) + 1 {
					for b := a; b <= len(text); b++ {
						d, second := edit.New(s, text), &second{split, []string{text}}
						for _, put := range puts {
							both(t, d, second, a, b, put)
							if err := d.Undo(); err != nil || second.undo() != nil {
								t.Fatalf("P22.3: %v", err)
							}
							together(t, "P22.3", d, second)
						}
						undone(t, d, api.ErrEnd)
					}
				}
			}
		}
	}
}

// drawnChange draws a change; most lie in the text, some are out of their place.
func drawnChange(r *rand.Rand, length int) (int, int, string) {
	a := r.Intn(length + 1)
	b := a + r.Intn(min(length-a, 6)+1)
	if r.Intn(12) == 0 {
		b = a + r.Intn(length-a+1)
	}
	if r.Intn(15) == 0 {
		a, b = a+r.Intn(5)-2, b+r.Intn(5)-2
	}
	var put strings.Builder
	for range r.Intn(4) {
		put.WriteString([]string{"a", "b", "A", ".", ". ", " ", "é", "€", "Mr.", "A. b.", "aa", "\n", "\xff", "\xe2\x82", "\xc3", "\xa9", "\xac"}[r.Intn(17)])
	}
	return a, b, put.String()
}

// W8: behind any changes a document has the boundaries of its text; W2: under every budget.
func TestW8_Rows(t *testing.T) {
	r := rand.New(rand.NewSource(2208))
	for _, file := range files() {
		all := each(t, file[0], file[1])
		split := byWords(t, all[0], file)
		for range 25 {
			_, _, start := drawnChange(r, 0)
			var docs []*edit.Doc
			var seconds []*second
			for _, s := range all {
				docs, seconds = append(docs, edit.New(s, start)), append(seconds, &second{split, []string{start}})
			}
			for range 60 {
				a, b, put := drawnChange(r, len(docs[0].Text()))
				back := r.Intn(3) == 0
				for i, d := range docs {
					if !back {
						both(t, d, seconds[i], a, b, put)
						continue
					}
					if err, want := d.Undo(), seconds[i].undo(); err != want {
						t.Fatalf("P22.3: Undo() = %v, want %v", err, want)
					}
					together(t, "P22.3", d, seconds[i])
				}
			}
			for i, d := range docs {
				for seconds[i].undo() == nil {
					undone(t, d, nil)
					together(t, "P22.3", d, seconds[i])
				}
				undone(t, d, api.ErrEnd)
			}
		}
	}
}
