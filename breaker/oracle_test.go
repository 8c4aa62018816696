package breaker_test

import (
	"fmt"
	"math/rand"
	"regexp"
	"slices"
	"strings"
	"testing"
	"unicode/utf8"

	"caesura/api"
	"caesura/breaker"
)

func list(n ...int) []int { return n }

// brief is a value as a text, cut off where it is long.
func brief(x any) string {
	s := fmt.Sprintf("%+v", x)
	return s[:min(len(s), 600)]
}

// badLetter stands for a bad unit in the words of the second version.
const badLetter = '\uf8ff'

// letters are the units that drawn texts are made of.
const letters = "ABab. é€\n" + string(badLetter)

// second is a second version of a splitter: rules are regular expressions over letters, tried at each place one by one.
type second struct {
	classes  map[rune]string
	ahead    []tried // the rules ahead of the suppressions
	behind   []tried
	suppress bool
	trail    string
	otherway bool // Else
}

// tried is a rule: what ends at the place, what begins there.
type tried struct {
	left, right string
	says        bool
}

func (s *second) class(letter rune) string {
	if name, ok := s.classes[letter]; ok {
		return name
	}
	return "Other"
}

// lettersOf is a text as letters, and the offsets of its places.
func lettersOf(text string) ([]rune, []int) {
	var word []rune
	offsets := list(0)
	for at := 0; at < len(text); {
		letter, size := utf8.DecodeRuneInString(text[at:])
		if letter == utf8.RuneError && size == 1 {
			letter = badLetter
		}
		word = append(word, letter)
		at += size
		offsets = append(offsets, at)
	}
	return word, offsets
}

func (t tried) fits(word []rune, place int) bool {
	return asked(t.left).MatchString(string(word[:place])) && asked(t.right).MatchString(string(word[place:]))
}

// compiled keeps what was compiled once: the samples ask the same again and again.
var compiled = map[string]*regexp.Regexp{}

func asked(form string) *regexp.Regexp {
	if compiled[form] == nil {
		compiled[form] = regexp.MustCompile(form)
	}
	return compiled[form]
}

func ending(form string) string { return "(?s)(?:" + form + `)\z` }

func beginning(form string) string { return `(?s)\A(?:` + form + ")" }

// suppressing are the rules of the entries, as the page says them.
func (s *second) suppressing(entries []string) []tried {
	var all []tried
	for _, entry := range entries {
		for k := range entry {
			if k > 0 {
				all = append(all, tried{ending(regexp.QuoteMeta(entry[:k])), beginning(regexp.QuoteMeta(entry[k:])), false})
			}
		}
		all = append(all, tried{ending(regexp.QuoteMeta(entry) + "(?:" + s.trail + ")*"), beginning(""), false})
	}
	return all
}

// breaks is B(P, R, X, t).
func (s *second) breaks(entries []string, text string) []int {
	word, offsets := lettersOf(text)
	if len(word) == 0 {
		return nil
	}
	all := slices.Clone(s.ahead)
	if s.suppress {
		all = append(all, s.suppressing(entries)...)
	}
	all = append(all, s.behind...)
	answer := list(0)
	for place := 1; place < len(word); place++ {
		says := s.otherway
		if i := slices.IndexFunc(all, func(t tried) bool { return t.fits(word, place) }); i >= 0 {
			says = all[i].says
		}
		if says {
			answer = append(answer, offsets[place])
		}
	}
	return append(answer, len(text))
}

func (s *second) kinds(text string) []api.Kind {
	var kinds []api.Kind
	word, _ := lettersOf(text)
	for _, letter := range word {
		kind := api.Kind{Class: s.class(letter), Point: int(letter)}
		if letter == badLetter {
			kind.Point = api.Bad
		}
		kinds = append(kinds, kind)
	}
	return kinds
}

// drawn draws files and texts.
type drawn struct{ *rand.Rand }

func newDrawn(seed int64) drawn { return drawn{rand.New(rand.NewSource(seed))} }

func (d drawn) one(of ...string) string { return of[d.Intn(len(of))] }

func (d drawn) often(n int) bool { return d.Intn(n) > 0 }

// property is a file, and the classes that it gives to letters.
func (d drawn) property() (string, map[rune]string) {
	classes := map[rune]string{}
	lines := []string{"# classes"}
	for _, letter := range letters {
		if letter != badLetter && d.often(4) {
			classes[letter] = d.one("U", "L", "T", "Sp")
			lines = append(lines, fmt.Sprintf(d.one("%04X;%s", " %04x ; %s # one", "%05X;\t%s"), letter, classes[letter]))
		}
	}
	d.Shuffle(len(lines), func(i, j int) { lines[i], lines[j] = lines[j], lines[i] })
	return strings.Join(lines, d.one("\n", "\r\n", "\n\n")), classes
}

// set is a set as it is written in rules, and as a regular expression.
func (d drawn) set(s *second) (string, string) {
	all := []rune(letters)
	names := []string{"U", "L", "T", "Sp", "Other", "Zed"}
	d.Shuffle(len(all), func(i, j int) { all[i], all[j] = all[j], all[i] })
	d.Shuffle(len(names), func(i, j int) { names[i], names[j] = names[j], names[i] })
	names, points := names[:d.Intn(3)], all[:d.Intn(3)]
	not := d.Intn(4) == 0
	text := "["
	if not {
		text += "^"
	}
	for _, name := range names {
		text += " " + name
	}
	for _, point := range points {
		if point != badLetter {
			text += fmt.Sprintf(" \\u{%x}", point)
		}
	}
	var held string
	for _, letter := range letters {
		in := slices.Contains(names, s.class(letter)) || letter != badLetter && slices.Contains(points, letter)
		if in != not {
			held += fmt.Sprintf("\\x{%x}", letter)
		}
	}
	if held == "" {
		held = `^\x{0}-\x{10FFFF}`
	}
	return text + "]", "[" + held + "]"
}

// side is an expression, both ways; behind each unit there may be what is skipped.
func (d drawn) side(s *second, skip string, deep int) (string, string) {
	var text, form string
	for range d.Intn(4) {
		t, f := d.set(s)
		f = "(?:" + f + skip + ")"
		if deep > 0 && d.Intn(4) == 0 {
			t, f = d.side(s, skip, deep-1)
			t, f = "("+t+")", "(?:"+f+")"
		}
		sign := d.one("", "", "", "*", "+", "?")
		text, form = text+" "+t+sign, form+f+sign
	}
	if deep > 0 && d.Intn(5) == 0 {
		t, f := d.side(s, skip, deep-1)
		text, form = text+" | "+t, form+"|"+f
	}
	return text, form
}

func (d drawn) rule(s *second, name, skip string) (string, tried) {
	leftText, left := d.side(s, skip, 2)
	rightText, right := d.side(s, skip, 2)
	left, right = ending(left), beginning(right)
	if d.Intn(6) == 0 {
		leftText, left = "^ "+leftText, "(?s)\\A(?:"+left+")"
	}
	if d.Intn(6) == 0 {
		rightText, right = rightText+" $", "(?:"+right+")\\z"
	}
	mark := d.one("><", "<>")
	return name + ": " + leftText + " " + mark + " " + rightText, tried{left, right, mark == "<>"}
}

// rules is a file, and what it says, to these classes.
func (d drawn) rules(classes map[rune]string) (string, *second) {
	s := &second{classes: classes}
	count := d.Intn(6)
	suppressed, skipped := d.Intn(count+2)-1, d.Intn(4*count+2)
	if suppressed < 0 && d.often(3) {
		suppressed = 0
	}
	lines := []string{"let Held = [U]  # a name"}
	skip := ""
	for i := range count + 1 {
		if i == skipped {
			text, form := d.set(s)
			lines, skip = append(lines, "skip "+text), form+"*"
		}
		if i == suppressed {
			text, form := d.set(s)
			lines, s.suppress, s.trail = append(lines, "suppress "+text), true, form
		}
		if i < count {
			text, rule := d.rule(s, fmt.Sprint("R", i), skip)
			lines = append(lines, text)
			if s.suppress {
				s.behind = append(s.behind, rule)
			} else {
				s.ahead = append(s.ahead, rule)
			}
		}
	}
	s.otherway = d.often(3)
	return strings.Join(append(lines, "else "+map[bool]string{true: "<>", false: "><"}[s.otherway]), "\n"), s
}

func (d drawn) text(most int, of ...string) string {
	var b strings.Builder
	for range d.Intn(most + 1) {
		b.WriteString(d.one(of...))
	}
	return b.String()
}

// entries are rising ones.
func (d drawn) entries(most int) []string {
	var all []string
	for range d.Intn(most + 1) {
		if text := d.text(4, "a", "b", "A", ".", " ", "é", "€"); text != "" {
			all = append(all, text)
		}
	}
	slices.Sort(all)
	return slices.Compact(all)
}

// written is an entry as a bundle has it.
func written(entry string) string {
	return strings.NewReplacer(" ", `\s`, "\n", `\u{a}`, "#", `\#`, `\`, `\\`).Replace(entry)
}

// bundleOf is a bundle that adds these entries to the root.
func bundleOf(entries ...string) string {
	text := "[root]\n"
	for _, entry := range entries {
		text += "+ " + written(entry) + "\n"
	}
	return text
}

// texts are drawn with the entries among what they are made of.
func (d drawn) texts(count, most int, entries []string) []string {
	of := append([]string{"a", "b", "A", "B", ".", " ", "é", "€", "\n", "\xff", "\xe2\x82", "\xc3"}, entries...)
	var all []string
	for range count {
		all = append(all, d.text(most, of...))
	}
	return all
}

// built is a splitter that must be.
func built(t *testing.T, property, rules, bundle, tag string, budget int) *breaker.Splitter {
	t.Helper()
	s, err := breaker.Build(property, rules, bundle, tag, budget)
	if err != nil || s == nil {
		t.Fatalf("P19.1: Build(%.600q, %.600q, %.600q, %q, %d): %v, %v", property, rules, bundle, tag, budget, s, err)
	}
	return s
}

// size is how many states a pairing has.
func size(p api.Pairing) int { return len(p.Left.Next) + len(p.Right.Next) }

// same: are two tables the same? Lists that are nil and empty ones are.
func same(x, y api.Tables) bool {
	return slices.Equal(x.Names, y.Names) && slices.Equal(x.Spans, y.Spans) && x.Symbols == y.Symbols && slices.Equal(x.Letters, y.Letters) && x.Stray == y.Stray &&
		samePairing(x.Plain, y.Plain) && samePairing(x.Merged, y.Merged) && x.Engine == y.Engine && x.Before == y.Before && slices.Equal(x.Trail, y.Trail) && slices.Equal(x.Entries, y.Entries)
}

func samePairing(p, q api.Pairing) bool {
	return sameMachine(p.Left, q.Left) && sameMachine(p.Right, q.Right) && slices.Equal(p.Breaks, q.Breaks) && p.Else == q.Else
}

func sameMachine(m, n api.Machine) bool {
	return m.Start == n.Start && slices.EqualFunc(m.Next, n.Next, slices.Equal) && slices.EqualFunc(m.Out, n.Out, slices.Equal)
}
