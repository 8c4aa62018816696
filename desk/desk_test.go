package desk_test

import (
	"fmt"
	"slices"
	"strings"
	"testing"

	"caesura/api"
	"caesura/breaker"
	"caesura/codec"
	"caesura/desk"
)

// The files of chapter 19's examples.
const (
	classesFile = "0041..005A ; Upper\n0061..007A ; Lower\n002E ; ATerm\n0020 ; Sp\n"
	rulesFile   = "suppress Sp\nA: ATerm Sp* >< Lower\nB: ATerm >< Sp\nC: ATerm Sp+ >< Sp\nD: ATerm Sp* <>\nelse ><\n"
	bundleFile  = "[root]\n+ Mr.\n"
)

// brief is a list of answers, or its end.
func brief(l []string) string {
	text := fmt.Sprintf("%q", l)
	return text[max(0, len(text)-800):]
}

// line is a command of these words.
func line(words ...string) string {
	var l []string
	for _, word := range words {
		l = append(l, desk.Quote(word))
	}
	return strings.Join(l, " ")
}

// lines is a script of these lines.
func lines(l ...string) string { return strings.Join(l, "\n") }

// files hands three files in.
func files(property, rules, bundle string) string {
	return lines(line("property", property), line("rules", rules), line("bundle", bundle))
}

// ready hands the files of the examples in and builds.
func ready(more ...string) string {
	return lines(append([]string{files(classesFile, rulesFile, bundleFile), "build en 100"}, more...)...)
}

// printable: are all bytes from 20 to 7E?
func printable(answer string) bool {
	for i := range len(answer) {
		if answer[i] < 0x20 || answer[i] > 0x7e {
			return false
		}
	}
	return true
}

// played is the answers to a script that is not refused; P25.6 holds of them.
func played(t *testing.T, promise, script string) []string {
	t.Helper()
	answers, err := desk.Run(script)
	if err != nil {
		t.Fatalf("%s: Run(%.300q): %v", promise, script, err)
	}
	for _, answer := range answers {
		if answer == "" || !printable(answer) {
			t.Fatalf("P25.6: Run(%.300q) answers %.300q", script, answer)
		}
	}
	return answers
}

// plays: the answers to a script are these.
func plays(t *testing.T, promise, script string, want ...string) {
	t.Helper()
	if got := played(t, promise, script); !slices.Equal(got, want) {
		t.Errorf("%s: Run(%.600q):\n got %s,\nwant %s", promise, script, brief(got), brief(want))
	}
}

// goesOn: behind the files of the examples and a build the answers to these lines are the ones behind them. Lines and answers stand in turn.
func goesOn(t *testing.T, promise string, turns ...string) {
	t.Helper()
	var script []string
	want := []string{"ok", "ok", "ok", "built merged"}
	for i := 0; i < len(turns); i += 2 {
		script, want = append(script, turns[i]), append(want, turns[i+1])
	}
	plays(t, promise, ready(script...), want...)
}

// The chapter's examples.
func TestP25_4_Examples(t *testing.T) {
	goesOn(t, "P25.4", `split "Hi. Mr. Fox. ok."`, "at 0 4 16")
	goesOn(t, "P25.4", `cursor "Hi. Mr. Fox. ok."`, "ok", "next", "at 4", "next", "at 16", "next", "done", "current", "at 16", "following 4", "at 16", "preceding 4", "at 0", "is 4", "yes", "is 5", "no")
	goesOn(t, "P25.4", "stream", "ok", `feed "Hi. M"`, "at 0 4", `feed "r. "`, "at", "end", "at 8")
	goesOn(t, "P25.4", `document "Hi. you"`, "ok", `replace 4 5 "Y"`, "gone come 4", "undo", "ok", "undo", "error end")
	goesOn(t, "P25.4", "cursor a", "ok", "build en 100", "built merged", "next", "error lost")
	goesOn(t, "P25.4", "jump", "error text", "split", "error short", "build en x", "error arg")
	answers := played(t, "P25.4", ready("save", "spoil 0 0", "load"))
	if !strings.HasPrefix(answers[4], "saved ") || answers[5] != "ok" || !strings.HasPrefix(answers[6], "error ") {
		t.Errorf("P25.4: %q", answers)
	}
}

// The ten examples of the document's page.
func TestP25_4_Page(t *testing.T) {
	build := func(tag, budget string) string { return lines("standard sentences", "build "+tag+" "+budget) }
	mr := `"Mr. Smith came. He left."`
	plays(t, "example 1", lines(build("root", "10000"), "split "+mr, "build en 10000", "split "+mr), "ok", "built merged", "at 0 4 16 24", "built merged", "at 0 16 24")
	plays(t, "example 2", lines(build("en", "0"), "split "+mr, "splitby merged "+mr), "ok", "built filtered", "at 0 16 24", "error lost")
	plays(t, "example 3", lines(build("en", "10000"), `split "It is 3.5 m. long. (Yes.) No"`), "ok", "built merged", "at 0 19 26 28")
	plays(t, "example 4", lines(build("de", "10000"), `split "Das ist z. B. So."`), "ok", "built merged", "at 0 17")
	plays(t, "example 5", lines(build("en", "10000"), `split ""`, `split "\xff"`), "ok", "built merged", "at", "at 0 1")
	plays(t, "example 6", lines(build("en", "10000"), "cursor "+mr, "following 4", "next", "next", "preceding 16"), "ok", "built merged", "ok", "at 16", "at 24", "done", "at 0")
	plays(t, "example 7", lines(build("en", "10000"), "stream", `feed "He left. "`, `feed "S"`, "end"), "ok", "built merged", "ok", "at 0", "at 9", "at 10")
	plays(t, "example 8", lines(build("en", "10000"), `document "He left. she"`, "breaks", `replace 9 10 "S"`, "undo"), "ok", "built merged", "ok", "at 0 12", "gone come 9", "ok")
	answers := played(t, "example 9", lines(build("en", "10000"), "split "+mr, "save", "load", "split "+mr, "spoil 20 0", "load"))
	if answers[2] != answers[5] || answers[4] != "ok" || answers[7] != "error sum" {
		t.Errorf("example 9: %q", answers)
	}
	plays(t, "example 10", lines(`property "0061 ; A\n"`, `rules "R: A >< A\nelse <>\n"`, `bundle ""`, "build root 9", "split aabaa"), "ok", "ok", "ok", "built merged", "at 0 2 3 5")
}

func TestP25_3_Lines(t *testing.T) {
	plays(t, "P25.3", "")
	plays(t, "P25.3", "\n\n\n")
	plays(t, "P25.3", "#\n# property a\n   \n#\x00\xff\r\t\"\n \n#")
	plays(t, "P25.3", "property a", "ok")
	plays(t, "P25.3", "property a\n", "ok")
	plays(t, "P25.3", "\n# x\n  property   a  \n\nproperty b\n", "ok", "ok")
	plays(t, "P25.3: an answer for each command", lines("rules a", "jump", "split", "split a", "rules b"), "ok", "error text", "error short", "error lost", "ok")
	// what is no comment and holds a word is a command
	plays(t, "P25.4", lines(" # x", `"#"`, "\r", "property a\r", "property a\t", "\tproperty a", "\x00", "\xff", `""`, `property "a`, "property é"), slices.Repeat([]string{"error text"}, 11)...)
	plays(t, "P25.3", "property a\r\nproperty b", "error text", "ok")
	// a 0A stands in no word: a quoted one ends at no line's end
	plays(t, "P25.3", "property \"a\nb\"", "error text", "error text")
}

func TestP25_3_MaxFile(t *testing.T) {
	for _, text := range []string{"property a\n", "#", "\n"} {
		long := text + strings.Repeat(" ", api.MaxFile-len(text))
		if text == "#" {
			long = strings.Repeat("#", api.MaxFile)
		}
		want := strings.Count(text, "a")
		if answers, err := desk.Run(long); err != nil || len(answers) != want {
			t.Errorf("P25.3: a text of MaxFile bytes: %q, %v", answers, err)
		}
		if answers, err := desk.Run(long + "\n"); err != api.ErrMany || len(answers) != 0 {
			t.Errorf("P25.3: a text of one byte more: %q, %v", answers, err)
		}
	}
	if answers, err := desk.Run(strings.Repeat("property a\n", api.MaxFile)); err != api.ErrMany || len(answers) != 0 {
		t.Errorf("P25.3: a long text: %d answers, %v", len(answers), err)
	}
}

// wants is each command of the table, with arguments that may be, and what it needs.
type wants struct{ command, needs string }

func allCommands() []wants {
	return []wants{
		{"property a", ""}, {"rules a", ""}, {"bundle a", ""}, {"standard words", ""}, {"build en 5", ""}, {"load", ""}, {"spoil 0 0", ""}, {"cases a", ""},
		{"split a", "S"}, {"splitby merged a", "S"}, {"parts a", "S"}, {"save", "S"}, {"cursor a", "S"}, {"stream", "S"}, {"document a", "S"}, {"try", "S"},
		{"first", "C"}, {"last", "C"}, {"next", "C"}, {"previous", "C"}, {"current", "C"}, {"following 0", "C"}, {"preceding 0", "C"}, {"move 0", "C"}, {"is 0", "C"}, {"part", "C"},
		{"feed a", "T"}, {"end", "T"},
		{"replace 0 0 a", "E"}, {"undo", "E"}, {"text", "E"}, {"breaks", "E"},
	}
}

// What a command needs, and what is told where there is none.
func TestP25_4_Lost(t *testing.T) {
	makes := map[string]string{"C": "cursor abc", "T": "stream", "E": "document abc"}
	last := func(script string) string { return last(t, "P25.4", 1, script)[0] }
	for _, c := range allCommands() {
		if got := last(c.command); (got == "error lost") != (c.needs != "") {
			t.Errorf("P25.4: %s on an empty desk: %s", c.command, got)
		}
		for _, what := range []string{"C", "T", "E"} {
			if got := last(ready(makes[what], c.command)); (got == "error lost") != (c.needs != "" && c.needs != "S" && c.needs != what) {
				t.Errorf("P25.4: %s behind %s: %s", c.command, makes[what], got)
			}
			// with a new splitter they are none
			for _, anew := range []string{"build en 0", "save\nload"} {
				if got := last(ready(makes["C"], makes["T"], makes["E"], anew, c.command)); (got == "error lost") != (c.needs != "" && c.needs != "S") && !strings.HasPrefix(c.command, "splitby") {
					t.Errorf("P25.4: %s behind %s: %s", c.command, anew, got)
				}
			}
			// without one they stay
			for _, same := range []string{"build en -1", "build e 5", "build en", "load", "rules x\nbuild en 5", "save\nspoil 9 255\nload", "standard words", "property a", "split a"} {
				if got := last(ready(makes["C"], makes["T"], makes["E"], same, c.command)); got == "error lost" {
					t.Errorf("P25.4: %s behind %s: %s", c.command, same, got)
				}
			}
		}
	}
}

// How many arguments a command has; that is asked ahead of all else but its name.
func TestP25_4_Short(t *testing.T) {
	for _, c := range allCommands() {
		words := strings.Fields(c.command)
		for n := range 6 {
			script := append(slices.Clone(words[:1]), slices.Repeat([]string{"x"}, n)...)
			for _, ahead := range []string{"# nothing", ready("cursor a", "stream", "document a")} {
				if got := last(t, "P25.4", 1, lines(ahead, strings.Join(script, " ")))[0]; (got == "error short") != (n != len(words)-1) && c.command != "load" {
					t.Errorf("P25.4: %q: %s", script, got)
				}
			}
		}
		plays(t, "P25.4: another name", lines(words[0]+"_", words[0][1:]+" a", strings.ToUpper(words[0]), words[0]+" \"", "x"+words[0]+" a b", `"`+words[0]+` "`), slices.Repeat([]string{"error text"}, 6)...)
	}
	// words count, not how they are written
	goesOn(t, "P25.4", `"split" "ab"`, "at 0 2", `"s\x70lit" ab`, "at 0 2", `split ""`, "at", `split "" `, "at", `split "a b" c`, "error short", `split  "a b"`, "at 0 3", "split a b", "error short")
}

// Of several faults the first that holds is told.
func TestP25_4_Order(t *testing.T) {
	plays(t, "P25.4", lines(`jump "`, "jump", "next x", "following", "following x y", "following x", "splitby x", "splitby x y", "replace x y z", "is x", "move -", "build en", "build en x", "spoil x"), "error text", "error text", "error short", "error short", "error short", "error lost", "error short", "error lost", "error lost", "error lost", "error lost", "error short", "error arg", "error short")
	// a number that is none is told ahead of what the files say
	plays(t, "P25.4", lines("property x", "build en x", "build en 5", "build e -5", "build e 5"), "ok", "error arg", "error text", "error arg", "error text")
	goesOn(t, "P25.4", "document a", "ok", "replace x 9 a", "error arg", "replace 9 x a", "error arg", "text", "text a", "splitby x a", "error arg", "splitby Merged a", "error arg", `splitby "" a`, "error arg", "splitby 1 a", "error arg")
}

func TestP25_4_Files(t *testing.T) {
	// the files are those that were handed in last; nothing is read ahead of build
	plays(t, "P25.4", lines(files(classesFile, rulesFile, bundleFile), "property x", "build en 100", line("property", classesFile), "rules x", "build en 100", line("rules", rulesFile), "bundle x", "build en 100", line("bundle", bundleFile), "build en 100"),
		"ok", "ok", "ok", "ok", "error text", "ok", "ok", "error text", "ok", "ok", "error text", "ok", "built merged")
	// empty at first
	plays(t, "P25.4", lines("build en 5", `rules "else <>"`, "build en 5", `split "a\xc3\xa9"`), "error short", "ok", "built merged", "at 0 1 3")
	// a splitter is not changed by files that come behind it
	goesOn(t, "P25.4", "rules x", "ok", `split "Hi. Mr. A"`, "at 0 4 9", "build en 100", "error text", `split "Hi. Mr. A"`, "at 0 4 9", `bundle ""`, "ok", line("rules", rulesFile), "ok", `split "Hi. Mr. A"`, "at 0 4 9", "build en 100", "built merged", `split "Hi. Mr. A"`, "at 0 4 8 9")
}

func TestP25_4_Standard(t *testing.T) {
	plays(t, "P25.4", lines("standard sentences", "build en 10000", `split "Mr. A. B. c"`, "build root 10000", `split "Mr. A. B. c"`), "ok", "built merged", "at 0 7 11", "built merged", "at 0 4 7 11")
	// words and clusters change the rules alone
	plays(t, "P25.4", lines("standard words", "build en 10000", "split ab", `property "0061..007A;ALetter"`, "build en 10000", "split ab"), "ok", "built merged", "at 0 1 2", "ok", "built merged", "at 0 2")
	plays(t, "P25.4", lines("bundle x", `property "0061;L"`, "standard clusters", "build en 10000", `bundle ""`, "build en 10000", "split aa"), "ok", "ok", "ok", "error text", "ok", "built merged", "at 0 2")
	plays(t, "P25.4", lines("bundle x", "property x", "rules x", "standard sentences", "build en 10000"), "ok", "ok", "ok", "ok", "built merged")
	// sentences' property and bundle stay
	plays(t, "P25.4", lines("standard sentences", "standard words", "build en 10000", `split ".a"`, "standard sentences", "build en 10000", `split "Mr. A"`), "ok", "ok", "built merged", "at 0 1 2", "ok", "built merged", "at 0 5")
	plays(t, "P25.4", lines("standard", "standard x", `standard ""`, "standard Words", "standard word", "standard words clusters", "build en 5"), "error short", "error arg", "error arg", "error arg", "error arg", "error short", "error short")
}

func TestP25_4_Build(t *testing.T) {
	plays(t, "P25.4", lines(files(classesFile, rulesFile, bundleFile), "build en 0", "build en 1", "build EN-us 999999999", "build root 000000000", "build en 0000000000", "build en 1000000000", "build en -0", "build en -1", "build en +1", `build en " 1"`, `build en ""`, "build en 1.0", "build en 0x10", "build en 1_0", "build e 1", "build en_ 1", `build "" 1`, `build "en us" 1`),
		"ok", "ok", "ok", "built filtered", "built filtered", "built merged", "built filtered", "error arg", "error arg", "error arg", "error arg", "error arg", "error arg", "error arg", "error arg", "error arg", "error arg", "error text", "error text", "error text", "error text")
	// refused, the splitter is as it was
	goesOn(t, "P25.4", "build e 5", "error text", `split "A. Mr. B"`, "at 0 3 8", "build en 0", "built filtered", "build en x", "error arg", "splitby merged a", "error lost", `split "A. Mr. B"`, "at 0 3 8")
}

func TestP25_4_Splits(t *testing.T) {
	goesOn(t, "P25.4", `splitby merged "A. B"`, "at 0 3 4", `splitby filtered "A. B"`, "at 0 3 4", `splitby merged ""`, "at", "build en 0", "built filtered", `splitby merged "A. B"`, "error lost", `splitby filtered "A. B"`, "at 0 3 4", `split "A. B"`, "at 0 3 4")
	goesOn(t, "P25.4", `parts "A. B"`, `parts "A. " B`, `parts ""`, "parts", `parts "#. \". \\"`, `parts "#. " "\". " "\\"`, `parts ".\n.\x00.\xff.\xc3\xa9. # A.a"`, `parts . "\n." "\x00." "\xff." "\xc3\xa9. " "# A.a"`, "parts a", "parts a", "parts A.B.", "parts A. B.")
	goesOn(t, "P25.4", `split "\x41.\xe2\x82\xac.\xe2\x82."`, "at 0 2 6 9", `split "\n\n"`, "at 0 2")
}

// A cursor is of the splitter that was there when it began, and a new one takes the place of the old one.
func TestP25_4_Cursor(t *testing.T) {
	goesOn(t, "P25.4", `cursor "A. B. C. d"`, "ok", "current", "at 0", "part", `part "A. "`, "last", "at 10", "part", `part ""`, "previous", "at 6", "part", `part "C. d"`, "previous", "at 3", "previous", "at 0", "previous", "done", "current", "at 0", "move 2", "at 6", "move 2", "done", "move -1", "at 3", "move 0", "at 3", "move -999999999", "done", "move 999999999", "done", "first", "at 0", "next", "at 3",
		"following -5", "at 0", "following 10", "done", "following 999999999", "done", "preceding 0", "done", "preceding -999999999", "done", "preceding 5", "at 3", "preceding 000000007", "at 6",
		"is 3", "yes", "is -0", "yes", "is 0", "yes", "is 4", "no", "is 10", "yes", "is 11", "no", "is -3", "no", "current", "at 6",
		"following x", "error arg", "preceding 1000000000", "error arg", "move --1", "error arg", `is ""`, "error arg", "move -", "error arg", "current", "at 6",
		`cursor ""`, "ok", "current", "done", "first", "done", "last", "done", "next", "done", "previous", "done", "following -1", "done", "preceding 1", "done", "move 0", "done", "is 0", "no", "part", `part ""`,
		`cursor "\""`, "ok", "current", "at 0", "part", `part "\""`, "cursor ab", "ok", "part", "part ab")
}

func TestP25_4_Stream(t *testing.T) {
	goesOn(t, "P25.4", "stream", "ok", `feed ""`, "at", "feed A.", "at 0", "feed B.B", "at 2 4", "stream", "ok", `feed "\xe2\x82"`, "at", `feed "\xac. "`, "at 0", "end", "at 5", "end", "error end", "feed a", "error end", `feed ""`, "error end", "stream", "ok", "end", "at", "stream", "ok", `feed "\xe2\x82"`, "at", "end", "at 0 2")
	// a stream, a cursor and a document stand beside one another
	goesOn(t, "P25.4", "stream", "ok", `cursor "A. B"`, "ok", `feed "A. "`, "at 0", "next", "at 3", `document "A. b"`, "ok", "feed B", "at 3", "breaks", "at 0 4", "split A.A", "at 0 2 3", "current", "at 3", "end", "at 4", "text", `text "A. b"`, "next", "at 4")
}

func TestP25_4_Document(t *testing.T) {
	goesOn(t, "P25.4", `document "A. B. C."`, "ok", "breaks", "at 0 3 6 8", "replace 2 5 x", "gone 3 6 come", "text", `text "A.x C."`, "breaks", "at 0 6", "replace 0 0 A.", "gone come 2", "breaks", "at 0 2 8", "replace 0 8 \"\"", "gone 0 2 8 come", "breaks", "at", "text", `text ""`, "undo", "ok", "undo", "ok", "undo", "ok", "text", `text "A. B. C."`, "undo", "error end", "breaks", "at 0 3 6 8")
	goesOn(t, "P25.4", "document ab", "ok", "replace 1 0 x", "error arg", "replace -1 0 x", "error arg", "replace -0 -0 x", "gone come", "replace 0 4 x", "error arg", "replace 4 4 x", "error arg", "replace 3 3 x", "gone 3 come 4", "text", "text xabx", "replace 000000000 4 \"\\n\\\"\\\\\\x7f \"", "gone come", "text", `text "\n\"\\\x7f "`, "document b", "ok", "undo", "error end", "text", "text b", `document ""`, "ok", "breaks", "at", `replace 0 0 ""`, "gone come", "replace 0 0 A.A", "gone come 0 2 3")
}

func TestP25_4_Cases(t *testing.T) {
	marks := strings.NewReplacer("|", `\xc3\xb7`, "-", `\xc3\x97`)
	goesOn(t, "P25.4", "try", "failed", marks.Replace(`cases "| 0041 - 002E - 0020 | 0042 |\n# x\n| 0061 | 0062 |\n- 0061 -\n| 0061 |\n|"`), "cases 5", "try", "failed 1 2 4", "cases x", "error text", "try", "failed 1 2 4", marks.Replace(`cases "| D800 |"`), "error arg", "try", "failed 1 2 4", "build en 0", "built filtered", "try", "failed 1 2 4", marks.Replace(`rules "else <>"`), "ok", "build en 0", "built filtered", "try", "failed 0 2 4", `cases ""`, "cases 0", "try", "failed")
	// they need no splitter to be read
	plays(t, "P25.4", marks.Replace(lines(`cases "| 0061 |"`, "try", `rules "else <>"`, "build en 0", "try")), "cases 1", "error lost", "ok", "built filtered", "failed")
}

// last is the answers to a script's last lines.
func last(t *testing.T, promise string, count int, script string) []string {
	t.Helper()
	answers := played(t, promise, script)
	return answers[len(answers)-count:]
}

// P25.5: which words are numbers, and which have a sign.
func TestP25_5_Numbers(t *testing.T) {
	none := []string{"", "-", "--1", "+1", "1-", "1+", " 1", "1 ", "1234567890", "-1234567890", "0000000000", "-0000000000", "1.", "1.5", "1e3", "0x1", "1_0", "_1", "a", "1a", "a1", "1a1", "\u0661", "\xff", "1\n", "1\x00", "\x001", "- 1", "-+1", "-a", "99999999999999999999", "18446744073709551617", "Inf", "NaN", "\u22121", "\uff11"}
	signed := []string{"-0", "-1", "-5", "-00", "-000000000", "-999999999"}
	plain := []string{"0", "1", "9", "00", "007", "012345678", "999999999", "000000000"}
	signs := func(word string) []string {
		return []string{line("following", word), line("preceding", word), line("move", word), line("is", word)}
	}
	bare := func(word string) []string {
		return []string{line("build", "en", word), line("spoil", word, "0"), line("spoil", "0", word)}
	}
	replaces := func(word string) []string {
		return []string{line("replace", word, "999999999", ""), line("replace", "0", word, "")}
	}
	// wrong says which of the lines are told to be none, each on a desk of its own.
	wrong := func(l []string) []bool {
		var answers []bool
		for _, command := range l {
			answers = append(answers, last(t, "P25.5", 1, ready("save", "document abcdefghi", "cursor abcdefghi", command))[0] == "error arg")
		}
		return answers
	}
	for _, word := range none {
		for _, l := range [][]string{signs(word), bare(word), replaces(word)} {
			if slices.Contains(wrong(l), false) {
				t.Errorf("P25.5: %q is no number: %q", word, l)
			}
		}
	}
	for _, word := range signed {
		if slices.Contains(wrong(signs(word)), true) || slices.Contains(wrong(bare(word)), false) {
			t.Errorf("P25.5: %q is a number with a sign", word)
		}
	}
	for _, word := range plain {
		if slices.Contains(wrong(append(signs(word), bare(word)[0])), true) {
			t.Errorf("P25.5: %q is a number", word)
		}
	}
	goesOn(t, "P25.5", "cursor abcdefghi", "ok", "following -0", "at 9", "preceding 009", "at 0", "move 00", "at 0", "is 000000009", "yes", "is -9", "no", "document abcdefghi", "ok", "replace -0 9 a", "gone come", "replace 00 -0 b", "gone come", "text", "text ba")
}

// P25.4: save, load and spoil.
func TestP25_4_Record(t *testing.T) {
	s, err := breaker.Build(classesFile, rulesFile, bundleFile, "en", 100)
	if err != nil {
		t.Fatal(err)
	}
	p := s.Save()
	n := len(p)
	saved := fmt.Sprint("saved ", n)
	spoil := func(at, value int) string { return fmt.Sprint("spoil ", at, " ", value) }
	plays(t, "P25.4: an empty record", "load\nspoil 0 0\nspoil 0 256\nsave", "error short", "error arg", "error arg", "error lost")
	goesOn(t, "P25.4", "load", "error short", "save", saved, "load", "ok", "save", saved, spoil(n-1, int(p[n-1])), "ok", spoil(n, 0), "error arg", spoil(n-1, 256), "error arg", spoil(999999999, 0), "error arg", spoil(0, 999999999), "error arg", "load", "ok", `split "A. B"`, "at 0 3 4")
	// refused, what was there stays; brought back, it loads
	goesOn(t, "P25.4", "save", saved, "cursor A.B", "ok", spoil(0, 0), "ok", "load", "error text", "next", "at 2", spoil(0, int(p[0])), "ok", spoil(n/2, int(p[n/2])^1), "ok", "load", "error sum", "next", "at 3", spoil(n/2, int(p[n/2])), "ok", "load", "ok", "next", "error lost")
	// a record is not the splitter's own: neither one that was saved nor one that was loaded sees what becomes of it
	goesOn(t, "P25.4", "save", saved, spoil(9, 255), "ok", "load", "error sum", "save", saved, "load", "ok", spoil(9, 255), "ok", "load", "error sum", `split "A. B"`, "at 0 3 4", "save", saved, "load", "ok")
	// each byte counts
	for at := range p {
		script := ready("save", spoil(at, int(p[at])^(1+at%255)), "load", "split A.B")
		want := "error sum"
		if at < 8 {
			want = "error text"
		}
		if got := last(t, "W6", 2, script); got[0] != want || got[1] != "at 0 2 3" {
			t.Errorf("W6: byte %d: %q", at, got)
		}
	}
	// a record outlives its splitter, and is loaded where there is none
	goesOn(t, "P25.4", "save", saved, `rules "else <>"`, "ok", "build en 0", "built filtered", "split A.B", "at 0 1 2 3", "load", "ok", "split A.B", "at 0 2 3", "splitby merged A.B", "at 0 2 3", "build en 0", "built filtered", "split A.B", "at 0 1 2 3")
}

// The names of all refusals.
func TestP25_4_Refusals(t *testing.T) {
	refused := func(want, property, rules, bundle, tag string) {
		t.Helper()
		plays(t, "P25.4", lines(files(property, rules, bundle), line("build", tag, "5")), "ok", "ok", "ok", want)
	}
	refused("error arg", "0041;Other", "else <>", "", "en")
	refused("error text", "x", "else <>", "", "en")
	refused("error text", "", "else <>", "", "e")
	refused("error many", "", strings.Repeat("(", 33)+"\nelse <>", "", "en")
	refused("error short", "", "", "", "en")
	refused("error twice", "0041;A\n0041;A", "else <>", "", "en")
	refused("error order", "0042..0041;A", "else <>", "", "en")
	refused("error cycle", "", "else <>", "[aa]\nparent bb\n[bb]\nparent aa", "aa")
	goesOn(t, "P25.4", line("cases", strings.Repeat("|\n", 20001)), "error text", line("cases", strings.Repeat("÷\n", 20000)), "cases 20000", line("cases", strings.Repeat("÷\n", 20001)), "error many", line("cases", "÷ DFFF ÷"), "error arg")
	// error form: the right sum, and a byte that is in no form
	s, err := breaker.Build(classesFile, rulesFile, bundleFile, "en", 100)
	if err != nil {
		t.Fatal(err)
	}
	p := s.Save()
	p[len(p)-5] ^= 0x80 // in an entry: no UTF-8 any more
	sum := codec.Crc(p[:len(p)-4])
	script := []string{"save", fmt.Sprint("spoil ", len(p)-5, " ", p[len(p)-5])}
	for i := range 4 {
		script = append(script, fmt.Sprint("spoil ", len(p)-4+i, " ", sum>>(24-8*i)&0xff))
	}
	if got := last(t, "P25.4", 2, ready(append(script, "load", "split A.B")...)); !slices.Equal(got, []string{"error form", "at 0 2 3"}) {
		t.Errorf("P25.4: a byte that is in no form: %q", got)
	}
}
