package desk_test

import (
	"fmt"
	"slices"
	"strings"
	"testing"

	"caesura/api"
)

// Under rules that make no boundary inside a text the answer to parts is as long as a test wants it.
const one = "rules \"else ><\"\nbuild en 5"

// filler is commands whose answers have so many bytes together, all but a few of them asked for by `text`; a text of 2^18 bytes goes with them.
func filler(t *testing.T, bytes int) []string {
	t.Helper()
	const size = 1 << 18
	list := []string{one, "document " + strings.Repeat("a", size)}
	bytes -= len("ok") + len("built merged") + len("ok")
	for ; bytes > 2*size; bytes -= len("text ") + size {
		list = append(list, "text")
	}
	list = append(list, "parts "+strings.Repeat("b", bytes-len("parts ")))
	if n := len(lines(list...)); n > api.MaxFile-5000 {
		t.Fatalf("a script of %d bytes", n)
	}
	return list
}

func together(answers []string) int {
	n := 0
	for _, answer := range answers {
		n += len(answer)
	}
	return n
}

// behind plays commands behind answers that leave so much room, and is the answers to these commands.
func behind(t *testing.T, room int, commands ...string) []string {
	t.Helper()
	script := filler(t, api.MaxTold-room)
	answers := played(t, "P25.3", lines(append(script, commands...)...))
	ahead := answers[:len(answers)-len(commands)]
	if together(ahead) != api.MaxTold-room || slices.Contains(ahead, "error many") {
		t.Fatalf("P25.3: with room for %d bytes: %d bytes", room, together(ahead))
	}
	return answers[len(ahead):]
}

// At the limit and one past it.
func TestP25_3_MaxTold(t *testing.T) {
	many := "error many"
	for _, c := range []struct {
		room     int
		commands []string
		want     []string
	}{
		{0, []string{"property a", "property b"}, []string{many, many}},
		{1, []string{"property a", "property b"}, []string{many, many}},
		{2, []string{"property a", "property b"}, []string{"ok", many}},
		{3, []string{"property a", "property b"}, []string{"ok", many}},
		{4, []string{"property a", "property b", "property c"}, []string{"ok", "ok", many}},
		{9, []string{"jump", "property a"}, []string{many, many}},
		{10, []string{"jump", "property a"}, []string{"error text", many}},
		{11, []string{"jump"}, []string{"error text"}},
		{13, []string{"split aaaaaaa", "jump"}, []string{"at 0 7", many}},
		// an answer that has no room is counted with the ten bytes of what is told
		{12, []string{"splitby x aaa", "property a", "property b"}, []string{"error arg", "ok", many}},
		{12, []string{"parts abcdefg", "property a", "property b"}, []string{many, "ok", many}},
		{13, []string{"parts abcdefg", "property a", "property b"}, []string{"parts abcdefg", many, many}},
		{13, []string{"parts abcdefgh", "property a", "property b"}, []string{many, "ok", many}},
		{11, []string{"parts abcdefgh", "property a", "property b"}, []string{many, many, many}},
		{5, []string{"parts abcdefgh", "property a", "property b"}, []string{many, many, many}},
		{30, []string{"text", "text", "property a", "parts ab"}, []string{many, many, "ok", "parts ab"}},
		{30, []string{"text", "parts abc", "text", "property a", "parts ab"}, []string{many, "parts abc", many, many, many}},
	} {
		if got := behind(t, c.room, c.commands...); !slices.Equal(got, c.want) {
			t.Errorf("P25.3: room for %d bytes: %q: %q, want %q", c.room, c.commands, got, c.want)
		}
	}
}

// What a command does is done all the same.
func TestP25_3_Done(t *testing.T) {
	is := func(room int, turns ...string) {
		t.Helper()
		var commands, want []string
		for i := 0; i < len(turns); i += 2 {
			commands, want = append(commands, turns[i]), append(want, turns[i+1])
		}
		if got := behind(t, room, commands...); !slices.Equal(got, want) {
			t.Errorf("P25.3: room for %d bytes: %q: %q, want %q", room, commands, got, want)
		}
	}
	many := "error many"
	long := strings.Repeat("x", 60)
	each := `rules "else <>"`
	// a text that is too long to be told is there, and what has gone and come as well
	is(60, "document "+long, "ok", "text", many, "replace 2 60 \"\"", "gone come", "text", "text xx")
	is(60, "document ab", "ok", "replace 1 1 "+long, "gone come", "text", many, "undo", "ok", "text", "text ab")
	is(80, each, "ok", "build en 5", "built merged", "document "+long, "ok", "replace 0 60 \"\"", many, "text", `text ""`, "undo", "ok", "replace 3 60 \"\"", many, "text", "text xxx")
	// a stream goes on, a cursor moves, a splitter is built
	is(80, each, "ok", "build en 5", "built merged", "stream", "ok", "feed "+long, many, "feed y", "at 60", "end", "at 61", "end", "error end")
	is(12, "cursor a", "ok", "splitby filtered "+long, "at 0 60", "last", many, "part", many)
	is(22, "cursor a", "ok", "parts "+long, many, "last", "at 1", "part", many)
	is(18, "cursor abcdefghi", "ok", "text", many, "next", "at 9", "next", many)
	is(13, each, "ok", "build en 5", many, "split xy", many)
	is(30, each, "ok", "build en 5", "built merged", "split "+long, many, "is 1", many)
	is(40, each, "ok", "text", many, "build en 5", "built merged", "split xyz", "at 0 1 2 3")
	is(21, "stream", "ok", "parts "+long, many, "feed a", "at 0", "end", "at 1", "end", many)
}

// All answers together, and each one, by a second version of the limit: what a script answers whose texts are too long is what its commands answer one by one, as long as there is room.
func TestP25_3_Counted(t *testing.T) {
	const size = 90000
	var script, raw []string
	add := func(command, answer string) { script, raw = append(script, command), append(raw, answer) }
	text := strings.Repeat("a", size)
	all := []string{"at"}
	for i := range size + 1 {
		all = append(all, fmt.Sprint(i))
	}
	breaks := strings.Join(all, " ")
	add(`rules "else <>"`, "ok")
	add("build en 5", "built merged")
	add("document "+text, "ok")
	for i := range 60 {
		add("breaks", breaks)
		add("text", "text "+text)
		add(fmt.Sprint("property ", i), "ok")
		if i%7 == 0 {
			add("split abc", "at 0 1 2 3")
			add("jump", "error text")
		}
	}
	for i := range 30000 {
		add("property a", "ok")
		if i%2000 == 0 {
			add("text", "text "+text)
		}
	}
	var want []string
	sum, refused := 0, 0
	for _, answer := range raw {
		if sum+len(answer) > api.MaxTold {
			answer = "error many"
			refused++
		}
		sum += len(answer)
		want = append(want, answer)
	}
	got := played(t, "P25.3", lines(script...))
	if !slices.Equal(got, want) {
		t.Errorf("P25.3: %d answers of %d bytes, want %d of %d", len(got), together(got), len(want), together(want))
	}
	if refused < 50 || refused > len(raw)-1000 {
		t.Errorf("P25.3: %d of %d answers are too long", refused, len(raw))
	}
}
