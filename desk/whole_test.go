package desk_test

import (
	"fmt"
	"math/rand"
	"slices"
	"strconv"
	"strings"
	"sync"
	"testing"

	"caesura/breaker"
	"caesura/codec"
	"caesura/desk"
	"caesura/standard"
)

// W2: the same commands answer the same under every budget, on splitters that were loaded too; only build and splitby merged show it.
func TestW2_Budgets(t *testing.T) {
	d := drawnScripts{rand.New(rand.NewSource(22))}
	names := strings.Fields("split split parts splitby cursor next next previous following preceding move is part first last current stream feed feed feed feed end document replace replace undo text breaks cases try")
	engines := map[string]int{}
	for range 600 {
		begin := lines(line("property", d.argument("property", 0)), line("rules", d.argument("rules", 0)), line("bundle", d.argument("bundle", 0)))
		tag := d.argument("build", 0)
		script := []string{line("cursor", d.text(9)), "stream", line("document", d.text(9))}
		for range 60 {
			words := d.command(names)
			if words[0] != "splitby" || !slices.Contains(words, "merged") {
				script = append(script, lineOf(d.Rand, words))
			}
		}
		var first []string
		for _, budget := range []string{"0", "1", "2", "9", "30", "60", "999999999"} {
			answers := played(t, "W2", lines(begin, line("build", tag, budget), lines(script...)))
			if len(first) == 0 {
				first = answers
			}
			engines[answers[3]]++
			if strings.HasPrefix(answers[3], "built") != strings.HasPrefix(first[3], "built") || !slices.Equal(answers[4:], first[4:]) {
				t.Fatalf("W2: %q, the budget %s: %q: %s, want %s", begin, budget, script, brief(answers), brief(first))
			}
			if !strings.HasPrefix(first[3], "built") {
				continue
			}
			loaded := played(t, "W2", lines(begin, line("build", tag, budget), "save", "load", lines(script...)))
			if loaded[5] != "ok" || !slices.Equal(loaded[6:], first[4:]) {
				t.Fatalf("W2: loaded: %q, the budget %s: %q: %s, want %s", begin, budget, script, brief(loaded), brief(first))
			}
		}
	}
	enough(t, engines, 150, "built merged", "built filtered", "error text")
}

// offsetsOf are those of an answer.
func offsetsOf(t *testing.T, answer string) []int {
	t.Helper()
	words := strings.Fields(answer)
	if len(words) == 0 || words[0] != "at" {
		t.Fatalf("%q is no answer of offsets", answer)
	}
	var offsets []int
	for _, word := range words[1:] {
		n, err := strconv.Atoi(word)
		if err != nil {
			t.Fatalf("%q: %v", answer, err)
		}
		offsets = append(offsets, n)
	}
	return offsets
}

// cuts calls with each way in which a text is cut into pieces that are not empty.
func cuts(text string, do func(pieces []string)) {
	for marks := range 1 << max(0, len(text)-1) {
		var pieces []string
		from := 0
		for at := 1; at <= len(text); at++ {
			if at == len(text) || marks>>(at-1)&1 == 1 {
				pieces = append(pieces, text[from:at])
				from = at
			}
		}
		do(pieces)
	}
}

// W7: however a text is cut, by the end of the Feeds that bring some beginning of it the same boundaries were told, and in the end those of the whole.
func TestW7_AllCuts(t *testing.T) {
	for _, files := range []string{
		files(classesFile, rulesFile, bundleFile), "standard sentences",
		files("0061;A", "A: ^ (A A)* >< A\nB: A >< [^ A]* $\nsuppress\nelse <>", "[en]\n+ .a\n+ a.b\n"),
		files(classesFile, "suppress Sp\nD: ATerm Sp* <>\nelse ><", "[en]\n+ é.\n+ A.B.\n"),
	} {
		for _, budget := range []string{"0", "99999"} {
			for _, text := range []string{"", "A. B.", "Mr. B. c", "A.\r\n B", "é. Mr.", "A.B.A.B", "\xe2\x82\xe2\x82\xac.", "aaa.aab", "A.\u0301\xffb"} {
				prefixes := map[string]string{}
				var script []string
				cuts(text, func(pieces []string) {
					script = append(script, "stream")
					for _, piece := range pieces {
						script = append(script, line("feed", piece))
					}
					script = append(script, "end")
				})
				answers := played(t, "W7", lines(files, "build en "+budget, line("split", text), lines(script...)))
				answers = answers[len(answers)-len(script)-1:]
				come, told := "", ""
				for i, command := range script {
					words, _ := desk.Words(command)
					switch answer := answers[i+1]; words[0] {
					case "stream":
						come, told = "", ""
					case "feed":
						come, told = come+words[1], told+strings.TrimPrefix(answer, "at")
						if was, met := prefixes[come]; met && was != told {
							t.Fatalf("W7: %q of %q: %s, cut in another way %s", come, text, told, was)
						}
						prefixes[come] = told
					case "end":
						if whole := "at" + told + strings.TrimPrefix(answer, "at"); whole != answers[0] {
							t.Fatalf("W7: %q is told as %s, want %s", text, whole, answers[0])
						}
					}
				}
			}
		}
	}
}

// W9: what stands behind the end of a paragraph has the boundaries that it would have alone.
func TestW9_Paragraphs(t *testing.T) {
	d := drawnScripts{rand.New(rand.NewSource(29))}
	ends := []string{"\n", "\r\n", "\r", "\u0085", "\u2028", "\u2029"}
	moved := 0
	for _, tag := range []string{"root", "en", "en_AU", "de", "fr"} {
		for _, budget := range []string{"0", "99999"} {
			var script, texts []string
			var begins []int
			for range 200 {
				ahead, behind := d.text(8)+d.one(ends...), d.text(8)
				if strings.HasSuffix(ahead, "\r") && strings.HasPrefix(behind, "\n") {
					continue // one end of a paragraph, not two
				}
				begins = append(begins, len(ahead))
				texts = append(texts, ahead+behind)
				script = append(script, line("split", ahead), line("split", behind), line("split", ahead+behind))
			}
			answers := played(t, "W9", lines("standard sentences", "build "+tag+" "+budget, lines(script...)))[2:]
			for i, at := range begins {
				want := offsetsOf(t, answers[3*i])
				for _, offset := range offsetsOf(t, answers[3*i+1]) {
					if offset > 0 {
						want = append(want, offset+at)
						moved++
					}
				}
				if got := offsetsOf(t, answers[3*i+2]); !slices.Equal(got, want) {
					t.Fatalf("W9: %s: %q: %v, want %v", tag, texts[i], got, want)
				}
			}
		}
	}
	if moved < 2000 {
		t.Errorf("W9: only %d boundaries", moved)
	}
}

// tries: by these rules the cases go well, with both engines.
func tries(t *testing.T, promise, name, property string, cases []string) {
	t.Helper()
	for _, budget := range []string{"0", "99999"} {
		script := []string{"standard sentences", "standard " + name, "build root " + budget, line("cases", strings.Join(cases, "\n")), "try"}
		if property != "" {
			script[0] = line("property", property)
		}
		want := []string{"ok", "ok", "built merged", fmt.Sprint("cases ", len(cases)), "failed"}
		if budget == "0" {
			want[2] = "built filtered"
		}
		plays(t, promise, lines(script...), want...)
	}
}

// W10: rows of code points with the boundaries that UAX #29 puts there.
func TestW10_Sentences(t *testing.T) {
	tries(t, "W10", "sentences", "", []string{
		"÷ 0001 × 0001 ÷", "÷ 000D × 000A ÷ 0061 ÷", "÷ 000D ÷ 0308 × 000A ÷ 0308 ÷", "÷ 0085 ÷ 0308 × 0020 ÷", "÷ 000A ÷ 000D ÷ 000D ÷", "÷ 0061 × 0308 × 0041 ÷",
		"÷ 0028 × 0022 × 0047 × 006F × 002E × 0022 × 0029 × 0020 ÷ 0028 × 0048 × 0065 × 0020 × 0064 × 0069 × 0064 × 002E × 0029 ÷",
		"÷ 0028 × 201C × 0047 × 006F × 003F × 201D × 0029 × 0020 ÷ 0028 × 0048 × 0065 × 0020 × 0064 × 0069 × 0064 × 002E × 0029 ÷",
		"÷ 0055 × 002E × 0053 × 002E × 0041 × 0300 × 002E × 0020 × 0069 × 0073 ÷",
		"÷ 0055 × 002E × 0053 × 002E × 0041 × 0300 × 003F × 0020 ÷ 0048 × 0065 ÷",
		"÷ 0055 × 002E × 0053 × 002E × 0041 × 0300 × 002E ÷",
		"÷ 0033 × 002E × 0034 ÷", "÷ 0063 × 002E × 0064 ÷", "÷ 0043 × 002E × 0064 ÷", "÷ 0063 × 002E × 0044 ÷", "÷ 0043 × 002E × 0044 ÷",
		"÷ 0065 × 0074 × 0063 × 002E × 0029 × 2019 × 0020 × 0074 × 0068 × 0065 ÷",
		"÷ 0065 × 0074 × 0063 × 002E × 0029 × 2019 × 0020 ÷ 0054 × 0068 × 0065 ÷",
		"÷ 0065 × 0074 × 0063 × 002E × 0029 × 2019 × 0020 × 2018 × 0028 × 0074 × 0068 × 0065 ÷",
		"÷ 0065 × 0074 × 0063 × 002E × 0029 × 2019 × 0020 ÷ 2018 × 0028 × 0054 × 0068 × 0065 ÷",
		"÷ 0065 × 0074 × 0063 × 002E × 0029 × 2019 × 0020 × 0308 × 0074 × 0068 × 0065 ÷",
		"÷ 0065 × 0074 × 0063 × 002E × 0029 × 2019 × 0020 × 0308 ÷ 0054 × 0068 × 0065 ÷",
		"÷ 0065 × 0074 × 0063 × 002E × 0029 × 2019 × 0308 ÷ 0054 × 0068 × 0065 ÷",
		"÷ 0065 × 0074 × 0063 × 002E × 0029 × 000A ÷ 0308 × 0054 × 0068 × 0065 ÷",
		"÷ 0074 × 0068 × 0065 × 0020 × 0072 × 0065 × 0073 × 0070 × 002E × 0020 × 006C × 0065 × 0061 × 0064 × 0065 × 0072 × 0073 ÷",
		"÷ 5B57 × 002E ÷ 5B57 ÷", "÷ 0065 × 0074 × 0063 × 002E ÷ 5B83 ÷", "÷ 0065 × 0074 × 0063 × 002E × 3002 ÷", "÷ 5B57 × 3002 ÷ 5B83 ÷", "÷ 0021 × 0020 × 0020 ÷ 0061 ÷", "÷ 0061 × 002E × 002C × 0041 ÷", "÷ 003F × 003A × 0020 × 0041 ÷", "÷ 002E × 0020 × 0020 × 002C × 0041 ÷",
	})
}

func TestW10_Words(t *testing.T) {
	property := "000D;CR\n000A;LF\n0085;Newline\n0300..036F;Extend\n00AD;Format\n200D;ZWJ\n0041..005A;ALetter\n0061..007A;ALetter\n05D0..05EA;Hebrew_Letter\n0027;Single_Quote\n0022;Double_Quote\n003A;MidLetter\n002E;MidNumLet\n002C;MidNum\n0030..0039;Numeric\n30A1..30FA;Katakana\n005F;ExtendNumLet\n1F1E6..1F1FF;Regional_Indicator\n0020;WSegSpace\n3000;WSegSpace\n"
	tries(t, "W10", "words", property, []string{
		"÷ 0063 × 0061 × 006E × 0027 × 0074 ÷", "÷ 0063 × 0061 × 006E ÷ 2019 ÷ 0074 ÷", "÷ 0061 × 0062 ÷ 0020 ÷ 0062 × 0079 ÷", "÷ 0061 ÷ 0020 × 0020 ÷ 0061 ÷", "÷ 0020 × 3000 ÷", "÷ 0020 × 0308 ÷ 0020 ÷", "÷ 000D × 000A ÷ 000A ÷", "÷ 0061 ÷ 000A ÷ 0308 ÷ 0061 ÷", "÷ 0085 ÷ 0061 ÷",
		"÷ 0061 ÷ 002E ÷ 0032 × 0033 ÷", "÷ 0033 × 002E × 0031 × 0034 ÷", "÷ 0033 × 002C × 0031 × 0061 ÷", "÷ 0033 ÷ 003A ÷ 0031 ÷", "÷ 0061 × 003A × 0061 ÷", "÷ 0061 ÷ 003A ÷ 0031 ÷", "÷ 0061 ÷ 002C ÷ 0061 ÷", "÷ 0061 ÷ 003A ÷ 003A ÷ 0061 ÷", "÷ 0061 × 0308 × 003A × 0308 × 0061 ÷", "÷ 0061 × 005F × 0031 × 005F × 30A1 × 005F ÷", "÷ 30A1 × 30A2 ÷ 0061 ÷",
		"÷ 05D0 × 0027 ÷", "÷ 05D0 × 0022 × 05D0 ÷", "÷ 05D0 ÷ 0022 ÷ 0061 ÷", "÷ 0061 ÷ 0022 ÷ 05D0 ÷", "÷ 0061 ÷ 0027 ÷", "÷ 0061 × 0027 × 05D0 ÷", "÷ 200D ÷ 0061 ÷", "÷ 0061 × 00AD × 200D × 0061 ÷",
		"÷ 1F1E6 × 1F1E7 ÷ 1F1E8 ÷", "÷ 1F1E6 × 1F1E7 ÷ 1F1E8 × 1F1E9 ÷ 1F1EA ÷", "÷ 0061 ÷ 1F1E6 × 1F1E7 ÷ 1F1E8 ÷ 0062 ÷", "÷ 1F1E6 × 200D × 1F1E7 ÷ 1F1E8 ÷", "÷ 1F1E6 × 1F1E7 × 0308 ÷ 1F1E8 × 0308 × 1F1E9 ÷", "÷ 0308 ÷ 1F1E6 × 1F1E7 ÷ 1F1E8 ÷",
	})
}

func TestW10_Clusters(t *testing.T) {
	property := "000D;CR\n000A;LF\n0000..0009;Control\n200B;Control\n0300..036F;Extend\n200D;ZWJ\n0903;SpacingMark\n0600;Prepend\n1100..115F;L\n1160..11A7;V\n11A8..11FF;T\nAC00;LV\nAC01..AC1B;LVT\n1F1E6..1F1FF;Regional_Indicator\n"
	tries(t, "W10", "clusters", property, []string{
		"÷ 000D × 000A ÷ 0061 ÷ 000A ÷ 0308 ÷", "÷ 000A ÷ 000D ÷", "÷ 0061 × 0308 ÷ 0062 ÷", "÷ 0061 × 0308 × 0308 × 200D ÷ 0062 ÷", "÷ 0061 × 0903 ÷ 0062 ÷", "÷ 0061 ÷ 0600 × 0062 ÷", "÷ 0600 ÷ 000A ÷", "÷ 0600 ÷ 200B ÷ 0308 ÷", "÷ 0020 × 200D ÷ 0646 ÷",
		"÷ 1100 × 1160 × 11A8 ÷ 1100 ÷", "÷ 1100 × 1100 × AC00 × 1160 × 11A8 × 11A8 ÷", "÷ AC01 × 11A8 ÷ 1160 ÷", "÷ AC00 × 11A8 ÷ 1100 × AC01 ÷", "÷ 11A8 ÷ AC00 ÷ AC01 ÷", "÷ 1160 × 1160 ÷ 1100 ÷", "÷ 1100 × 0308 ÷ 1100 ÷",
		"÷ 1F1E6 × 1F1E7 ÷ 1F1E8 ÷ 0062 ÷", "÷ 0061 ÷ 1F1E6 × 1F1E7 ÷ 1F1E8 ÷ 0062 ÷", "÷ 0061 ÷ 1F1E6 × 1F1E7 × 200D ÷ 1F1E8 ÷ 0062 ÷", "÷ 0061 ÷ 1F1E6 × 200D ÷ 1F1E7 × 1F1E8 ÷ 0062 ÷", "÷ 0061 ÷ 1F1E6 × 1F1E7 ÷ 1F1E8 × 1F1E9 ÷ 0062 ÷",
	})
}

// spoiled are the commands that make bytes of those of a record, with the sum that fits.
func spoiled(record, other []byte) []string {
	sum := codec.Crc(other[:len(other)-4])
	for i := range 4 {
		other[len(other)-4+i] = byte(sum >> (24 - 8*i))
	}
	var script []string
	for at, b := range other {
		if b != record[at] {
			script = append(script, fmt.Sprint("spoil ", at, " ", b))
		}
	}
	return script
}

// W5, W6, W8: a cursor and a document go by what their splitter's own split answers, whatever bytes it was loaded of.
func TestW8_Spoiled(t *testing.T) {
	d := drawnScripts{rand.New(rand.NewSource(28))}
	loaded, otherwise := 0, 0
	for _, budget := range []int{0, 100} {
		s, err := breaker.Build(classesFile, rulesFile, bundleFile, "en", budget)
		if err != nil {
			t.Fatal(err)
		}
		record := s.Save()
		for range 600 {
			other := slices.Clone(record)
			for range 1 + d.Intn(2) {
				other[8+d.Intn(len(other)-12)] += byte(1 + d.Intn(3)*127)
			}
			ahead, text, put := d.text(3), d.text(9), d.text(2)
			now := put + text
			script := []string{files(classesFile, rulesFile, bundleFile), fmt.Sprint("build en ", budget), line("split", now), "save", lines(spoiled(record, other)...), "load", "save", "load", line("split", now), line("splitby", "filtered", now), line("cursor", now)}
			walk := slices.Repeat([]string{"next"}, len(now)+1)
			script = append(script, lines(walk...), line("document", ahead+text), fmt.Sprint("replace 0 ", len(ahead), " ", desk.Quote(put)), "breaks", "undo", "breaks", line("split", ahead+text), "stream", line("feed", now), "end")
			answers := played(t, "P0.1", lines(script...))
			before := answers[4]
			answers = answers[6+len(spoiled(record, other)):]
			if answers[0] != "ok" {
				if answers[0] != "error form" {
					t.Fatalf("P18.3: %s", answers[0])
				}
				continue
			}
			loaded++
			if answers[3] != before {
				otherwise++
			}
			want := offsetsOf(t, answers[3])
			for i, answer := range answers[6 : 6+len(walk)] {
				if i+1 < len(want) && answer != fmt.Sprint("at ", want[i+1]) || i+1 >= len(want) && answer != "done" {
					t.Fatalf("W5: %q: next %d is %s, the boundaries %v", now, i, answer, want)
				}
			}
			behind := answers[6+len(walk):]
			if behind[2] != answers[3] || behind[4] != behind[5] {
				t.Fatalf("W8: %q: %q, split says %s", now, behind, answers[3])
			}
			if told := behind[7] + strings.TrimPrefix(behind[8], "at"); told != answers[4] {
				t.Fatalf("P21.5: %q: %s, want %s", now, told, answers[4])
			}
		}
	}
	if loaded < 50 || otherwise < 8 {
		t.Errorf("%d records are loaded, %d of them split otherwise", loaded, otherwise)
	}
}

// P0.2, P25.6: a script answers the same whenever it is played, beside others too; a list that was answered is nobody else's.
func TestP0_2_AtOnce(t *testing.T) {
	script := lines(ready("split \"A. B\"", "parts \"A. B\"", "save", "cursor A.B", "next", "stream", "feed A.B", "end", "document A.B", "replace 0 1 C", "undo", "cases \"\"", "try"), "standard sentences", "build de 10000", "split \"z. B. A\"", line("rules", standard.Sentences()), "jump")
	want := played(t, "P25.4", script)
	if len(want) != 22 || want[20] != "ok" || want[19] != "at 0 7" {
		t.Fatalf("P25.4: %q", want)
	}
	var all sync.WaitGroup
	for range 8 {
		all.Go(func() {
			for range 5 {
				answers, err := desk.Run(script)
				if err != nil || !slices.Equal(answers, want) {
					t.Errorf("P0.2: %q, %v, want %q", answers, err, want)
				}
				clear(answers[:cap(answers)])
			}
		})
	}
	all.Wait()
	for range 2 {
		words, err := desk.Words("a \"b\" c")
		if err != nil || !slices.Equal(words, []string{"a", "b", "c"}) {
			t.Errorf("P0.2: %q, %v", words, err)
		}
		clear(words[:cap(words)])
	}
}

// Nothing is kept from one script to the next.
func TestP25_6_Kept(t *testing.T) {
	played(t, "P25.6", ready("save", "cursor a", "stream", "document a", `cases "\xc3\xb7"`))
	plays(t, "P25.6", "build en 5\nload\nsplit a\nnext\nfeed a\ntext\nrules \"else <>\"\nbuild en 5\ntry", "error short", "error short", "error lost", "error lost", "error lost", "error lost", "ok", "built merged", "failed")
}

// P0.1: whatever bytes a script is made of, Run answers.
func TestP0_1_AnyBytes(t *testing.T) {
	d := drawnScripts{rand.New(rand.NewSource(1))}
	for range 2000 {
		text := ""
		for range d.Intn(12) {
			if d.Intn(3) > 0 {
				text += lineOf(d.Rand, d.command(allNames()))
			}
			text += drawnWord(d.Rand, 5) + d.one("\n", "\n", "\r\n", " ", "")
		}
		played(t, "P0.1", text)
		if at := d.Intn(len(text) + 1); at > 0 {
			played(t, "P0.1", text[:at])
			played(t, "P0.1", text[at:])
		}
	}
}
