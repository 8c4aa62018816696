package standard_test

import (
	"cmp"
	"fmt"
	"math/rand"
	"slices"
	"strings"
	"testing"

	"caesura/api"
	"caesura/breaker"
	"caesura/standard"
)

// The procedure of UAX #29, by the chapter's words. c is the classes of a text's units.

func is(class string, names ...string) bool { return slices.Contains(names, class) }

// row answers the classes of the kept units from one on, counted from 1; the empty text, where there is none.
func row(c []string, from, step int, passed ...string) func(n int) string {
	var found []string
	return func(n int) string {
		for ; len(found) < n && 0 <= from && from < len(c); from += step {
			if !is(c[from], passed...) {
				found = append(found, c[from])
			}
		}
		if n > len(found) {
			return ""
		}
		return found[n-1]
	}
}

// run counts the units of a class that follow one another behind the first n.
func run(kept func(n int) string, n int, class string) int {
	count := 0
	for kept(n+count+1) == class {
		count++
	}
	return count
}

func sentencesSay(c []string, i int) bool {
	u, v := c[i-1], c[i]
	switch {
	case u == "CR" && v == "LF":
		return false
	case is(u, "Sep", "CR", "LF"):
		return true
	case is(v, "Extend", "Format"):
		return false
	}
	a, b := row(c, i-1, -1, "Extend", "Format"), row(c, i, 1, "Extend", "Format")
	if a(1) == "ATerm" && b(1) == "Numeric" {
		return false
	}
	if a(1) == "ATerm" && is(a(2), "Upper", "Lower") && b(1) == "Upper" {
		return false
	}
	p := run(a, 0, "Sp")
	q := run(a, p, "Close")
	t := a(p + q + 1)
	if !is(t, "STerm", "ATerm") {
		return false
	}
	n := 1
	for b(n) != "" && !is(b(n), "OLetter", "Upper", "Lower", "Sep", "CR", "LF", "STerm", "ATerm") {
		n++
	}
	switch {
	case t == "ATerm" && b(n) == "Lower":
		return false
	case is(b(1), "SContinue", "STerm", "ATerm"):
		return false
	case p == 0 && is(b(1), "Close", "Sp", "Sep", "CR", "LF"):
		return false
	case is(b(1), "Sp", "Sep", "CR", "LF"):
		return false
	}
	return true
}

func wordsSay(c []string, i int) bool {
	u, v := c[i-1], c[i]
	switch {
	case u == "CR" && v == "LF":
		return false
	case is(u, "Newline", "CR", "LF"), is(v, "Newline", "CR", "LF"):
		return true
	case u == "WSegSpace" && v == "WSegSpace":
		return false
	case is(v, "Extend", "Format", "ZWJ"):
		return false
	}
	a, b := row(c, i-1, -1, "Extend", "Format", "ZWJ"), row(c, i, 1, "Extend", "Format", "ZWJ")
	letter := func(class string) bool { return is(class, "ALetter", "Hebrew_Letter") }
	middle := func(class string) bool { return is(class, "MidLetter", "MidNumLet", "Single_Quote") }
	decimal := func(class string) bool { return is(class, "MidNum", "MidNumLet", "Single_Quote") }
	switch {
	case letter(a(1)) && letter(b(1)), letter(a(1)) && middle(b(1)) && letter(b(2)), letter(a(2)) && middle(a(1)) && letter(b(1)):
		return false
	case a(1) == "Hebrew_Letter" && b(1) == "Single_Quote":
		return false
	case a(1) == "Hebrew_Letter" && b(1) == "Double_Quote" && b(2) == "Hebrew_Letter", a(2) == "Hebrew_Letter" && a(1) == "Double_Quote" && b(1) == "Hebrew_Letter":
		return false
	case a(1) == "Numeric" && b(1) == "Numeric", a(1) == "Numeric" && letter(b(1)), letter(a(1)) && b(1) == "Numeric":
		return false
	case a(2) == "Numeric" && decimal(a(1)) && b(1) == "Numeric", a(1) == "Numeric" && decimal(b(1)) && b(2) == "Numeric":
		return false
	case a(1) == "Katakana" && b(1) == "Katakana":
		return false
	case (letter(a(1)) || is(a(1), "Numeric", "Katakana", "ExtendNumLet")) && b(1) == "ExtendNumLet":
		return false
	case a(1) == "ExtendNumLet" && (letter(b(1)) || is(b(1), "Numeric", "Katakana")):
		return false
	}
	return !(b(1) == "Regional_Indicator" && run(a, 0, "Regional_Indicator")%2 == 1)
}

func clustersSay(c []string, i int) bool {
	u, v := c[i-1], c[i]
	switch {
	case u == "CR" && v == "LF":
		return false
	case is(u, "Control", "CR", "LF"), is(v, "Control", "CR", "LF"):
		return true
	case u == "L" && is(v, "L", "V", "LV", "LVT"), is(u, "LV", "V") && is(v, "V", "T"), is(u, "LVT", "T") && v == "T":
		return false
	case is(v, "Extend", "ZWJ", "SpacingMark"), u == "Prepend":
		return false
	}
	return !(v == "Regional_Indicator" && run(row(c, i-1, -1), 0, "Regional_Indicator")%2 == 1)
}

// kind is rules with their procedure, and all classes that either of them names.
type kind struct {
	name, rules, classes string
	says                 func(c []string, i int) bool
}

func kinds() []kind {
	return []kind{
		{"sentences", standard.Sentences(), "Sep CR LF Extend Format Sp Lower Upper OLetter Numeric ATerm STerm SContinue Close", sentencesSay},
		{"words", standard.Words(), "CR LF Newline Extend Format ZWJ ALetter Hebrew_Letter Single_Quote Double_Quote MidLetter MidNumLet MidNum Numeric Katakana ExtendNumLet Regional_Indicator WSegSpace", wordsSay},
		{"clusters", standard.Clusters(), "CR LF Control Extend ZWJ SpacingMark Prepend L V T LV LVT Regional_Indicator", clustersSay},
	}
}

// letter is a unit and its class.
type letter struct{ text, class string }

// told is the text of letters, and its boundaries by the procedure.
func (k kind) told(word []letter) (string, []int) {
	var text strings.Builder
	var offsets, boundaries []int
	var classes []string
	for _, l := range word {
		offsets = append(offsets, text.Len())
		classes = append(classes, l.class)
		text.WriteString(l.text)
	}
	for i := range word {
		if i == 0 || k.says(classes, i) {
			boundaries = append(boundaries, offsets[i])
		}
	}
	if len(word) > 0 {
		boundaries = append(boundaries, text.Len())
	}
	return text.String(), boundaries
}

func (k kind) holds(t *testing.T, all []*breaker.Splitter, word []letter) {
	t.Helper()
	text, want := k.told(word)
	splits(t, "P24.3: "+k.name, all, text, want...)
}

// plain is a property file in which each class has one letter, from A on, and these letters; those of Other, a bad unit among them, stand behind.
func plain(classes string) (string, []letter) {
	var file strings.Builder
	var letters []letter
	for i, class := range strings.Fields(classes) {
		fmt.Fprintf(&file, "%04X;%s\n", 'A'+i, class)
		letters = append(letters, letter{string(rune('A' + i)), class})
	}
	return file.String(), append(letters, letter{"z", api.Other}, letter{"\xff", api.Other})
}

// only are the letters of some classes.
func only(letters []letter, classes ...string) []letter {
	return slices.DeleteFunc(slices.Clone(letters), func(l letter) bool { return !is(l.class, classes...) })
}

// words calls with each word of up to so many letters.
func words(letters []letter, most int, do func(word []letter)) {
	var longer func(word []letter)
	longer = func(word []letter) {
		do(word)
		if len(word) == most {
			return
		}
		for _, l := range letters {
			longer(append(word[:len(word):len(word)], l))
		}
	}
	longer(nil)
}

// All words of up to three units of all classes.
func TestP24_3_AllSmall(t *testing.T) {
	for _, k := range kinds() {
		file, letters := plain(k.classes)
		all := each(t, file, k.rules, "", "root")
		words(letters, 3, func(word []letter) { k.holds(t, all, word) })
	}
}

// All words of up to five or six units of those classes that hang on one another.
func TestP24_3_AllOfFew(t *testing.T) {
	few := map[string][][]string{
		"sentences": {
			{"Sep", "Extend", "Sp", "Lower", "ATerm", "Close", "Numeric"},
			{"CR", "LF", "ATerm", "STerm", "Sp", "Upper", "SContinue"},
			{"Format", "Upper", "Lower", "ATerm", "OLetter"},
		},
		"words": {
			{"ALetter", "MidNumLet", "Numeric", "Extend", "Single_Quote", "Katakana", "ExtendNumLet"},
			{"Hebrew_Letter", "Double_Quote", "Single_Quote", "ZWJ", "MidLetter"},
			{"Regional_Indicator", "Format", "Newline", "WSegSpace"},
		},
		"clusters": {
			{"L", "V", "T", "LV", "LVT", "Extend", "Prepend"},
			{"Regional_Indicator", "ZWJ", "CR", "LF", "SpacingMark"},
		},
	}
	for _, k := range kinds() {
		file, letters := plain(k.classes)
		all := each(t, file, k.rules, "", "root")
		for _, classes := range few[k.name] {
			most := 6
			if len(classes) > 5 {
				most = 5
			}
			words(only(letters, classes...), most, func(word []letter) { k.holds(t, all, word) })
		}
	}
}

// round is a text in which each word of n letters stands at one place.
func round(letters []letter, n int) []letter {
	var text []letter
	word := make([]int, n+1)
	var longer func(at, period int)
	longer = func(at, period int) {
		if at > n {
			if n%period == 0 {
				for _, l := range word[1 : period+1] {
					text = append(text, letters[l])
				}
			}
			return
		}
		for l := word[at-period]; l < len(letters); l++ {
			word[at] = l
			next := at
			if l == word[at-period] {
				next = period
			}
			longer(at+1, next)
		}
	}
	longer(1, 1)
	return append(text, text[:min(n-1, len(text))]...)
}

// Long texts, in which all words of four units of all classes stand somewhere, and all longer ones of few.
func TestP24_3_Long(t *testing.T) {
	for _, k := range kinds() {
		file, letters := plain(k.classes)
		all := each(t, file, k.rules, "", "root")
		k.holds(t, all, round(letters, 4))
		few := only(letters, "Extend", "Sp", "Close", "ATerm", "Lower", "Upper", "ALetter", "MidNumLet", "Regional_Indicator", "L", "V", "Prepend")
		if len(few) < 4 {
			t.Errorf("%s: %d letters", k.name, len(few))
		}
		k.holds(t, all, round(few, 6))
	}
}

// property is a drawn file of these classes, of which some may be left out and one nobody names may stand beside, and the letters of them.
func property(r *rand.Rand, classes string) (string, []letter) {
	var lines []string
	letters := []letter{{"\xff", api.Other}, {"\x80", api.Other}}
	at := 0
	take := func(class string, wide int) {
		first, last := at, at+wide
		if class != api.Other {
			text := fmt.Sprintf("%04X;%s", first, class)
			if wide > 0 || r.Intn(3) == 0 {
				text = fmt.Sprintf("%05x..%04X ; %s # %s", first, last, class, class)
			}
			lines = append(lines, text)
		}
		for _, point := range list(first, last) {
			if point < 0xd800 || point > 0xdfff {
				letters = append(letters, letter{string(rune(point)), class})
			}
		}
		at = last + 1
	}
	names := append(strings.Fields(classes), "Foo", api.Other, api.Other)
	names = slices.DeleteFunc(names, func(string) bool { return r.Intn(12) == 0 })
	for range 2 {
		r.Shuffle(len(names), func(i, j int) { names[i], names[j] = names[j], names[i] })
		for _, class := range names {
			take(class, []int{0, 0, 1, 30, 900, 20000}[r.Intn(6)])
		}
	}
	r.Shuffle(len(lines), func(i, j int) { lines[i], lines[j] = lines[j], lines[i] })
	return strings.Join(lines, "\n"), letters
}

// some draws a text of a few of the letters.
func some(r *rand.Rand, letters []letter, most int) []letter {
	var few, word []letter
	for range 1 + r.Intn(7) {
		few = append(few, letters[r.Intn(len(letters))])
	}
	for range r.Intn(most + 1) {
		word = append(word, few[r.Intn(len(few))])
	}
	return word
}

// With any property file, and with any bundle and tag that come to no entries.
func TestP24_3_Drawn(t *testing.T) {
	r := rand.New(rand.NewSource(2403))
	none := []struct{ bundle, tag string }{{"", "root"}, {"", "zh_Hant"}, {standard.Bundle(), "root"}, {standard.Bundle(), "es_419"}, {"[en]\n+ A\n[de]\nparent en\n- A", "de"}, {"[root]\n+ A\n+ B\n[en]\n- B\n- A\n+ C\n- C", "en_GB"}}
	for _, k := range kinds() {
		for i := range 60 {
			file, letters := property(r, k.classes)
			n := none[i%len(none)]
			all := each(t, file, k.rules, n.bundle, n.tag)
			for range 40 {
				k.holds(t, all, some(r, letters, 40))
			}
			if t.Failed() {
				t.Fatalf("the property file %q", file)
			}
		}
		all := each(t, "", k.rules, "", "root") // no class but Other
		k.holds(t, all, some(r, []letter{{"A", api.Other}, {"\u0301", api.Other}, {"\xff", api.Other}}, 40))
		k.holds(t, each(t, "0000..10FFFF;Extend", k.rules, "", "root"), []letter{{"A", "Extend"}, {"\xff", api.Other}, {"A", "Extend"}, {"\u0301", "Extend"}})
	}
}

// Long rows of one class, and of what is passed over in it.
func TestP24_3_LongRows(t *testing.T) {
	for _, k := range kinds() {
		file, letters := plain(k.classes)
		all := each(t, file, k.rules, "", "root")
		for _, l := range letters {
			for _, n := range list(1, 2, 3, 70, 71) {
				word := slices.Repeat([]letter{l}, n)
				k.holds(t, all, word)
				k.holds(t, all, slices.Concat(letters, word, letters))
				for _, classes := range []string{"ATerm Close Sp", "Extend Regional_Indicator", "ATerm Extend", "Extend Lower", "ALetter MidLetter Extend"} {
					few := only(letters, strings.Fields(classes)...)
					k.holds(t, all, slices.Concat(few, word, few))
				}
			}
		}
	}
}

// ends are the letters at the ends of all lines of the chapter's property file, and those beside them.
func ends(t *testing.T) []letter {
	t.Helper()
	classes := map[int]string{}
	points := map[int]int{}
	for line := range strings.Lines(standard.Property()) {
		var low, high int
		var name string
		if strings.HasPrefix(line, "#") {
			continue
		}
		line = strings.Replace(line, "..", " ", 1)
		line = strings.Replace(line, ";", " ", 1)
		if n, _ := fmt.Sscanf(line, "%x %x %s", &low, &high, &name); n != 3 {
			if n, _ = fmt.Sscanf(line, "%x %s", &low, &name); n != 2 {
				t.Fatalf("P24.1: the line %q", line)
			}
			high = low
		}
		for point := low; point <= high; point++ {
			classes[point] = name
		}
		for _, point := range list(low-1, low, high, high+1) {
			points[point]++
		}
	}
	letters := []letter{{"\xff", api.Other}, {"\U0001f600", api.Other}, {"\U0010ffff", api.Other}}
	for point := range 0x110000 {
		if points[point] > 0 {
			letters = append(letters, letter{string(rune(point)), cmp.Or(classes[point], api.Other)})
		}
	}
	return letters
}

// With the chapter's own property file.
func TestP24_3_Property(t *testing.T) {
	letters := ends(t)
	r := rand.New(rand.NewSource(24))
	k := kinds()[0]
	all := each(t, standard.Property(), k.rules, standard.Bundle(), "root")
	at := only(letters, "ATerm", "Sp", "Close")
	for _, l := range letters {
		for range 5 {
			k.holds(t, all, append(some(r, at, 4), l, at[r.Intn(len(at))], l))
			k.holds(t, all, append(some(r, letters, 9), l))
		}
		k.holds(t, all, []letter{{"a", "Lower"}, {".", "ATerm"}, l, {" ", "Sp"}, {"b", "Lower"}})
		k.holds(t, all, []letter{{".", "ATerm"}, {" ", "Sp"}, l, {"b", "Lower"}})
		k.holds(t, all, []letter{{"!", "STerm"}, {" ", "Sp"}, l, {"B", "Upper"}})
	}
	for range 2000 {
		k.holds(t, all, some(r, letters, 60))
	}
}
