package desk_test

import (
	"bytes"
	"fmt"
	"math/rand"
	"regexp"
	"slices"
	"strconv"
	"strings"
	"testing"
	"unicode/utf8"

	"caesura/api"
	"caesura/breaker"
	"caesura/bundle"
	"caesura/locale"
	"caesura/rules"
	"caesura/standard"
	"caesura/stream"
	"caesura/testfile"
)

// second is a second version of the desk. Its boundaries are those of the rules' words (layer 9), without any machine; a cursor is a place in their list, a document its texts.
type second struct {
	property, rules, bundle string
	splitter                *breaker.Splitter
	says                    func(text string) []int
	saved, record           []byte
	savedSays               func(text string) []int
	cases                   []api.Case
	cursor                  *walker
	stream                  *feeder
	document                []string // the text, and those that Undo brings back, the last one first
}

type walker struct {
	text   string
	breaks []int
	at     int
}

type feeder struct {
	stream *stream.Stream
	come   string
	told   []int
	ended  bool
}

// saysOf is B(P, R, X, t) of files that a splitter was built of.
func saysOf(s *breaker.Splitter, rulesText, bundleText, tag string) func(text string) []int {
	r, _, _ := rules.Parse(rulesText)
	b, _, _ := bundle.Parse(bundleText)
	entries, _ := locale.Resolve(b, tag)
	var points [][]int
	for _, entry := range entries {
		var l []int
		for _, point := range entry {
			l = append(l, int(point))
		}
		points = append(points, l)
	}
	return func(text string) []int {
		offsets := []int{0}
		for at := 0; at < len(text); {
			_, size := utf8.DecodeRuneInString(text[at:])
			at += size
			offsets = append(offsets, at)
		}
		var breaks []int
		for _, place := range rules.Breaks(r, points, s.Kinds(text)) {
			breaks = append(breaks, offsets[place])
		}
		return breaks
	}
}

func told(word string, list []int) string {
	for _, n := range list {
		word += fmt.Sprint(" ", n)
	}
	return word
}

func refusal(err error) string {
	for i, e := range []error{api.ErrArg, api.ErrText, api.ErrMany, api.ErrShort, api.ErrTwice, api.ErrOrder, api.ErrLost, api.ErrCycle, api.ErrSum, api.ErrForm, api.ErrEnd} {
		if e == err {
			return "error " + strings.Fields("arg text many short twice order lost cycle sum form end")[i]
		}
	}
	return "none"
}

// wantsOf: the number of arguments, what is needed, and which of the arguments are numbers, with a sign (s) and without (n).
var wantsOf = map[string]struct{ arguments, needs string }{
	"property": {".", ""}, "rules": {".", ""}, "bundle": {".", ""}, "standard": {".", ""}, "build": {".n", ""}, "split": {".", "S"}, "splitby": {"..", "S"}, "parts": {".", "S"}, "save": {"", "S"}, "load": {"", ""}, "spoil": {"nn", ""},
	"cursor": {".", "S"}, "first": {"", "C"}, "last": {"", "C"}, "next": {"", "C"}, "previous": {"", "C"}, "current": {"", "C"}, "following": {"s", "C"}, "preceding": {"s", "C"}, "move": {"s", "C"}, "is": {"s", "C"}, "part": {"", "C"},
	"stream": {"", "S"}, "feed": {".", "T"}, "end": {"", "T"}, "document": {".", "S"}, "replace": {"ss.", "E"}, "undo": {"", "E"}, "text": {"", "E"}, "breaks": {"", "E"}, "cases": {".", ""}, "try": {"", "S"},
}

func (d *second) there(need string) bool {
	return need == "" || need == "S" && d.splitter != nil || need == "C" && d.cursor != nil || need == "T" && d.stream != nil || need == "E" && d.document != nil
}

func isNumber(word, sort string) bool {
	return sort == "." || regexp.MustCompile(map[string]string{"s": `\A-?[0-9]{1,9}\z`, "n": `\A[0-9]{1,9}\z`}[sort]).MatchString(word)
}

// answer is the chapter's, the first that holds; words is what the line holds.
func (d *second) answer(words []string) string {
	name, arguments := words[0], words[1:]
	w, known := wantsOf[name]
	if !known {
		return "error text"
	}
	if len(arguments) != len(w.arguments) {
		return "error short"
	}
	if !d.there(w.needs) {
		return "error lost"
	}
	numbers := make([]int, len(arguments))
	for i, word := range arguments {
		if !isNumber(word, w.arguments[i:i+1]) {
			return "error arg"
		}
		numbers[i], _ = strconv.Atoi(word)
	}
	switch w.needs {
	case "C":
		return d.walk(name, append(numbers, 0)[0])
	case "T":
		return d.feed(name, strings.Join(arguments, ""))
	case "E":
		return d.change(name, arguments, numbers)
	}
	return d.make(name, arguments, numbers)
}

func (d *second) make(name string, arguments []string, numbers []int) string {
	switch name {
	case "property":
		d.property = arguments[0]
	case "rules":
		d.rules = arguments[0]
	case "bundle":
		d.bundle = arguments[0]
	case "standard":
		text := map[string]string{"sentences": standard.Sentences(), "words": standard.Words(), "clusters": standard.Clusters()}[arguments[0]]
		if text == "" {
			return "error arg"
		}
		d.rules = text
		if arguments[0] == "sentences" {
			d.property, d.bundle = standard.Property(), standard.Bundle()
		}
	case "build":
		s, err := breaker.Build(d.property, d.rules, d.bundle, arguments[0], numbers[1])
		if err != nil {
			return refusal(err)
		}
		d.renew(s, saysOf(s, d.rules, d.bundle, arguments[0]))
		return "built " + map[int]string{api.Merged: "merged", api.Filtered: "filtered"}[s.Engine()]
	case "save":
		d.saved, d.record, d.savedSays = d.splitter.Save(), d.splitter.Save(), d.says
		return fmt.Sprint("saved ", len(d.record))
	case "load":
		s, err := breaker.Load(d.record)
		if same := len(d.saved) > 0 && bytes.Equal(d.record, d.saved); same != (err == nil) {
			return "W6: " + fmt.Sprint(err)
		}
		if err != nil {
			return refusal(err)
		}
		d.renew(s, d.savedSays)
	case "spoil":
		if numbers[0] >= len(d.record) || numbers[1] > 255 {
			return "error arg"
		}
		d.record[numbers[0]] = byte(numbers[1])
	case "cases":
		cases, _, err := testfile.Parse(arguments[0])
		if err != nil {
			return refusal(err)
		}
		d.cases = cases
		return fmt.Sprint("cases ", len(cases))
	default:
		return d.split(name, arguments)
	}
	return "ok"
}

func (d *second) renew(s *breaker.Splitter, says func(string) []int) {
	d.splitter, d.says = s, says
	d.cursor, d.stream, d.document = nil, nil, nil
}

func (d *second) split(name string, arguments []string) string {
	switch name {
	case "split":
		return told("at", d.says(arguments[0]))
	case "splitby":
		if arguments[0] != "merged" && arguments[0] != "filtered" {
			return "error arg"
		}
		if arguments[0] == "merged" && d.splitter.Engine() != api.Merged {
			return "error lost"
		}
		return told("at", d.says(arguments[1]))
	case "parts":
		text := "parts"
		breaks := d.says(arguments[0])
		for i := 1; i < len(breaks); i++ {
			text += " " + secondQuote(arguments[0][breaks[i-1]:breaks[i]])
		}
		return text
	case "try":
		var failed []int
		for i, c := range d.cases {
			if !d.goesWell(c) {
				failed = append(failed, i)
			}
		}
		return told("failed", failed)
	case "cursor":
		d.cursor = &walker{text: arguments[0], breaks: d.says(arguments[0])}
	case "stream":
		d.stream = &feeder{stream: stream.New(d.splitter)}
	case "document":
		d.document = arguments[:1:1]
	}
	return "ok"
}

func (d *second) goesWell(c api.Case) bool {
	text := ""
	var breaks []int
	for i, point := range append(slices.Clone(c.Points), 0) {
		if slices.Contains(c.Breaks, i) {
			breaks = append(breaks, len(text))
		}
		text += string(rune(point))
	}
	return slices.Equal(breaks, d.says(text[:len(text)-1]))
}

// walk: all goes by the place in the list.
func (d *second) walk(name string, n int) string {
	c := d.cursor
	to := c.at
	switch name {
	case "first":
		to = 0
	case "last":
		to = len(c.breaks) - 1
	case "next":
		to++
	case "previous":
		to--
	case "move":
		to += n
	case "following":
		to = 0
		for to < len(c.breaks) && c.breaks[to] <= n {
			to++
		}
	case "preceding":
		to = len(c.breaks) - 1
		for to >= 0 && c.breaks[to] >= n {
			to--
		}
	case "is":
		return map[bool]string{true: "yes", false: "no"}[slices.Contains(c.breaks, n)]
	case "part":
		part := ""
		if c.at+1 < len(c.breaks) {
			part = c.text[c.breaks[c.at]:c.breaks[c.at+1]]
		}
		return "part " + secondQuote(part)
	}
	if to < 0 || to >= len(c.breaks) {
		return "done"
	}
	c.at = to
	return fmt.Sprint("at ", c.breaks[to])
}

// feed: when a boundary is told layer 21 says; all that is told is what the whole text says (W7).
func (d *second) feed(name, data string) string {
	f := d.stream
	got, err := f.stream.Feed(data)
	if name == "end" {
		got, err = f.stream.End()
	}
	if f.ended {
		return "error end"
	}
	f.come += data
	f.told = append(f.told, got...)
	f.ended = name == "end"
	all := d.says(f.come)
	if err != nil || len(f.told) > len(all) || !slices.Equal(f.told, all[:len(f.told)]) || f.ended && len(f.told) < len(all) {
		return fmt.Sprint("W7: ", f.told, all, err)
	}
	return told("at", got)
}

func (d *second) change(name string, arguments []string, numbers []int) string {
	text := d.document[0]
	switch name {
	case "text":
		return "text " + secondQuote(text)
	case "breaks":
		return told("at", d.says(text))
	case "undo":
		if len(d.document) == 1 {
			return "error end"
		}
		d.document = d.document[1:]
		return "ok"
	}
	a, b := numbers[0], numbers[1]
	if a < 0 || b < a || b > len(text) {
		return "error arg"
	}
	now := text[:a] + arguments[2] + text[b:]
	d.document = append([]string{now}, d.document...)
	image := func(offset int) int {
		if offset <= a {
			return offset
		}
		if offset < b {
			return -1
		}
		return offset + len(now) - len(text)
	}
	var gone, come, images []int
	for _, offset := range d.says(text) {
		if at := image(offset); at >= 0 && slices.Contains(d.says(now), at) {
			images = append(images, at)
		} else {
			gone = append(gone, offset)
		}
	}
	for _, offset := range d.says(now) {
		if !slices.Contains(images, offset) {
			come = append(come, offset)
		}
	}
	return told("gone", gone) + " " + told("come", come)
}

// drawnScripts draws commands.
type drawnScripts struct{ *rand.Rand }

func (d drawnScripts) one(of ...string) string { return of[d.Intn(len(of))] }

func (d drawnScripts) text(most int) string {
	text := ""
	for range d.Intn(most + 1) {
		text += d.one("a", "b", "A", "B", ".", " ", ". ", "Mr.", "Mr. ", "z. B.", "e.g. ", "?", "\n", "\r\n", "\u0301", "\u00ad", "3", ",", ")", "é", "字", "\U0001f600", "\xff", "\xe2\x82", "\xc3", "\xf0\x9f")
	}
	return text
}

func (d drawnScripts) number() string {
	if d.Intn(8) == 0 {
		return d.one("", "-", "x", "1.0", "+1", "1234567890", "-1000000000", "--1")
	}
	return d.one("", "", "-", "0", "-00") + d.one(fmt.Sprint(d.Intn(4)), fmt.Sprint(d.Intn(25)), fmt.Sprint(d.Intn(25)), fmt.Sprint(d.Intn(400)), "99999")
}

func (d drawnScripts) cases() string {
	text := ""
	for range d.Intn(4) {
		text += d.one("÷", "÷", "×")
		for range d.Intn(4) {
			text += " " + d.one("0041", "0061", "002E", "0020", "0020", "0301", "00E9") + " " + d.one("÷", "×", "×")
		}
		text += d.one("\n", "\n", "\n", " #\n", "\r\n", "x\n")
	}
	return text
}

// argument is one that may be, most of the time.
func (d drawnScripts) argument(name string, at int) string {
	switch {
	case name == "property":
		return d.one(classesFile, classesFile, standard.Property(), "", "0041;A\n0061;B\n002E..0040 ; C", "x", "0041;A\n0041;B", "0042..0041;A", "0041;Other")
	case name == "rules":
		return d.one(rulesFile, rulesFile, standard.Sentences(), "else <>", "else ><", "suppress [^]\nelse <>", "A: ^ Upper* >< Lower+ $\nsuppress\nB: [^ Upper] <> 'b'\nelse ><", "skip [Sp]\nA: Upper >< Lower\nsuppress Sp\nelse <>", "A: (Lower Lower)* <> Upper\nB: >< Lower* $\nelse <>", "", "else", "x", "let A = B\nlet A = C\nelse <>", "A: B ><\nlet B = C\nelse <>")
	case name == "bundle":
		return d.one(bundleFile, bundleFile, standard.Bundle(), "", "[root]\n+ a.\n+ a. b.\n+ B.\n[en]\n- B.\n+ é\n", "[en]\nparent de\n[de]\nparent en", "[en]\n+ ab\n+ \\s\n", "x", "[en]\n[en]", "[root]\nparent en")
	case name == "standard":
		return d.one("sentences", "sentences", "words", "clusters", "clusters", "x", "")
	case name == "build" && at == 0:
		return d.one("en", "en", "en", "root", "en_GB", "de", "EN-us", "fr", "e", "")
	case name == "build":
		return d.one("0", "5", "30", "100", "999", "99999", "999999999", "-1", "x", "")
	case name == "splitby" && at == 0:
		return d.one("merged", "merged", "filtered", "filtered", "filtered", "x", "")
	case name == "cases":
		return d.cases()
	case name == "feed":
		return d.text(3)
	case name == "replace" && at == 2:
		return d.text(4)
	case name == "replace" && d.Intn(6) > 0:
		return fmt.Sprint(d.Intn(5) + 5*at*d.Intn(2))
	case name == "is" && d.Intn(2) > 0:
		return fmt.Sprint(d.Intn(6))
	case wantsOf[name].arguments[at] == '.':
		return d.text(9)
	}
	return d.number()
}

// command is the words of a line; now and then it is none.
func (d drawnScripts) command(names []string) []string {
	name := names[d.Intn(len(names))]
	words := []string{name}
	for at := range len(wantsOf[name].arguments) {
		words = append(words, d.argument(name, at))
	}
	switch d.Intn(60) {
	case 0:
		return append(words, d.text(1))
	case 1:
		return words[:1]
	case 2:
		words[0] = d.one("Split", "splits", "", "a b", "#", "\xff", "\n")
	}
	return words
}

// against plays drawn commands on both versions, behind a beginning.
func against(t *testing.T, promise string, seed int64, scripts, commands int, beginning [][]string, names []string) map[string]int {
	t.Helper()
	d := drawnScripts{rand.New(rand.NewSource(seed))}
	met := map[string]int{}
	for range scripts {
		other := &second{}
		var script, want []string
		play := func(words []string) {
			script = append(script, lineOf(d.Rand, words))
			if strings.HasPrefix(script[len(script)-1], "#") {
				return
			}
			want = append(want, other.answer(words))
		}
		for _, words := range beginning {
			play(words)
		}
		for range d.Intn(commands) {
			switch d.Intn(40) {
			case 0:
				script = append(script, d.one("", "   ", "# a comment", "#\"\xff"))
			case 1:
				script = append(script, d.one(`split "a`, "split a\"b", "\t", `"\q"`, "split é"))
				want = append(want, "error text")
			default:
				play(d.command(names))
			}
		}
		got := played(t, promise, lines(script...))
		for i := range want {
			if i >= len(got) || got[i] != want[i] {
				t.Fatalf("%s: answer %d of %q is %.300q, want %.300q", promise, i, script, append(slices.Clone(got), "none")[min(i, len(got))], want[i])
			}
			words := strings.Fields(want[i])
			met[words[0]]++
			if words[0] == "error" {
				met[want[i]]++
			}
		}
		if len(got) != len(want) {
			t.Fatalf("%s: %q: %d answers, want %d", promise, script, len(got), len(want))
		}
	}
	return met
}

// enough: each of these answers was met so often.
func enough(t *testing.T, met map[string]int, least int, answers ...string) {
	t.Helper()
	for _, answer := range answers {
		if met[answer] < least {
			t.Errorf("%q was met only %d times", answer, met[answer])
		}
	}
}

func beginning() [][]string {
	return [][]string{{"property", classesFile}, {"rules", rulesFile}, {"bundle", bundleFile}, {"build", "en", "100"}}
}

func allNames() []string {
	var names []string
	for name := range wantsOf {
		names = append(names, name)
	}
	slices.Sort(names)
	return names
}

func TestP25_4_Drawn(t *testing.T) {
	names := allNames()
	if len(names) != len(allCommands()) {
		t.Fatalf("%d commands, and %d", len(names), len(allCommands()))
	}
	met := against(t, "P25.4", 2541, 300, 60, nil, names)
	begun := against(t, "P25.4", 2542, 600, 120, beginning(), append(slices.Repeat(strings.Fields("cursor stream feed feed document replace replace text breaks next part is"), 3), names...))
	for answer, n := range begun {
		met[answer] += n
	}
	making := strings.Fields("property rules bundle bundle standard build build build save save spoil load load split splitby parts cases try")
	for answer, n := range against(t, "P25.4", 2543, 300, 60, beginning(), making) {
		met[answer] += n
	}
	enough(t, met, 50, "ok", "at", "built", "parts", "saved", "done", "yes", "no", "part", "gone", "text", "cases", "failed", "error arg", "error text", "error short", "error lost", "error end")
	enough(t, met, 5, "error twice", "error order", "error sum", "error cycle")
}

// W5: every row of calls on a cursor answers what a place in the list would.
func TestW5_Drawn(t *testing.T) {
	names := append(slices.Repeat(strings.Fields("first last next next next previous current following preceding move move is part"), 3), "cursor")
	enough(t, against(t, "W5", 255, 500, 150, append(beginning(), []string{"cursor", "A. B. Mr. C. d.\xffA. \nE"}), names), 200, "at", "done", "yes", "no", "part")
}

// W7: a stream tells the boundaries of the whole, however it is cut.
func TestW7_Drawn(t *testing.T) {
	names := append(slices.Repeat([]string{"feed"}, 25), "end", "stream")
	enough(t, against(t, "W7", 257, 300, 80, append(beginning(), []string{"stream"}), names), 300, "at", "error end")
	sentences := [][]string{{"standard", "sentences"}, {"build", "en", "9999"}, {"stream"}}
	enough(t, against(t, "W7", 258, 100, 60, sentences, names), 500, "at")
}

// W8: behind any changes a document has the boundaries of its text.
func TestW8_Drawn(t *testing.T) {
	names := append(slices.Repeat(strings.Fields("replace replace breaks text undo"), 3), "document")
	enough(t, against(t, "W8", 259, 300, 80, append(beginning(), []string{"document", "A. B. Mr. C. d."}), names), 500, "gone", "at", "text", "error arg", "error end")
	sentences := [][]string{{"standard", "sentences"}, {"build", "de", "0"}, {"document", "Das ist z. B. So. A. b"}}
	enough(t, against(t, "W8", 260, 100, 60, sentences, names), 300, "gone", "at", "text")
}
