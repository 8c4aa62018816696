package tables_test

import (
	"fmt"
	"slices"
	"strings"
	"testing"

	"caesura/api"
	"caesura/tables"
)

// chain tells 0 at the last of so many states alone; each state is told from the next one by a word as long as what is left.
func chain(states, symbols int) api.Machine {
	m := api.Machine{Out: make([][]int, states)}
	for s := range states {
		row := make([]int, symbols)
		row[symbols-1] = min(s+1, states-1)
		m.Next = append(m.Next, row)
	}
	m.Out[states-1] = list(0)
	return m
}

// wide is tables with so many symbols, each but the last of one code point, and these two machines.
func wide(symbols int, left, right api.Machine) api.Tables {
	x := small()
	x.Letters, x.Symbols = nil, symbols
	for i := range symbols - 1 {
		x.Letters = append(x.Letters, api.Span{Low: i, High: i, Name: i})
	}
	x.Letters = append(x.Letters, api.Span{Low: symbols - 1, High: 0xd7ff, Name: symbols - 1}, api.Span{Low: 0xe000, High: 0x10ffff})
	x.Plain = api.Pairing{Left: left, Right: right, Breaks: []bool{true}}
	return x
}

// refusedAs: tables above a limit are ErrArg in themselves, and ErrForm as bytes.
func refusedAs(t *testing.T, what string, x api.Tables) {
	t.Helper()
	wrong(t, what, x)
	unread(t, what, bytesOf(x), api.ErrForm)
}

func TestP18_1_MaxSymbols(t *testing.T) {
	good(t, "as many symbols as can be", wide(api.MaxSymbols, one(api.MaxSymbols), one(api.MaxSymbols)))
	refusedAs(t, "one symbol too many", wide(api.MaxSymbols+1, one(api.MaxSymbols+1), one(api.MaxSymbols+1)))
	x := wide(api.MaxSymbols, one(api.MaxSymbols), one(api.MaxSymbols))
	x.Stray = api.MaxSymbols
	refusedAs(t, "one symbol too many for Symbols", x)
	x = wide(api.MaxSymbols-1, one(api.MaxSymbols), one(api.MaxSymbols))
	x.Stray, x.Symbols, x.Before = api.MaxSymbols-1, api.MaxSymbols, 0
	for symbol := range x.Symbols {
		x.Trail = append(x.Trail, symbol)
	}
	good(t, "the last symbol is Stray's, and Trail has all", x)
	x.Trail = append(x.Trail, api.MaxSymbols)
	refusedAs(t, "Trail has one more", x)
}

func TestP18_1_MaxStates(t *testing.T) {
	full, over := chain(api.MaxStates, 1), chain(api.MaxStates+1, 1)
	good(t, "as many states as can be", wide(1, full, full))
	refusedAs(t, "one state too many, left", wide(1, over, full))
	refusedAs(t, "one state too many, right", wide(1, full, over))
	x := wide(1, one(1), one(1))
	x.Engine, x.Merged = api.Merged, api.Pairing{Left: full, Right: full, Breaks: []bool{false}}
	good(t, "as many merged states as can be", x)
	x.Merged.Right = over
	refusedAs(t, "one merged state too many", x)
}

func TestP18_1_MaxCells(t *testing.T) {
	good(t, "as many cells as can be", wide(256, chain(api.MaxStates, 256), chain(api.MaxCells/256, 256)))
	refusedAs(t, "a row too many, left", wide(257, chain(api.MaxCells/257+1, 257), one(257)))
	refusedAs(t, "a row too many, right", wide(257, one(257), chain(api.MaxCells/257+1, 257)))
	good(t, "no row too many", wide(257, one(257), chain(api.MaxCells/257, 257)))
	good(t, "all symbols", wide(api.MaxSymbols, chain(256, api.MaxSymbols), one(api.MaxSymbols)))
}

func TestP18_1_MaxNames(t *testing.T) {
	x := small()
	for n := range api.MaxNames {
		x.Names = append(x.Names, fmt.Sprint("N", n))
		x.Spans = append(x.Spans, api.Span{Low: n, High: n, Name: n + 1})
	}
	good(t, "as many names as can be", x)
	x.Names = append(x.Names, "More")
	x.Spans = append(x.Spans, api.Span{Low: 100, High: 100, Name: 63})
	refusedAs(t, "one name too many", x)
}

func TestP18_1_MaxSpans(t *testing.T) {
	x := small()
	x.Names = []string{"Other", strings.Repeat("N", api.MaxName)}
	for i := range api.MaxSpans {
		x.Spans = append(x.Spans, api.Span{Low: 2 * i, High: 2 * i, Name: 1})
	}
	good(t, "as many spans as can be", x)
	x.Spans = append(x.Spans, api.Span{Low: api.MaxPoint, High: api.MaxPoint, Name: 1})
	refusedAs(t, "one span too many", x)
}

// Letters have no limit but the code points.
func TestP18_1_AllLetters(t *testing.T) {
	x := wide(2, one(2), one(2))
	x.Letters = nil
	for point := range api.MaxPoint + 1 {
		if point < 0xd800 || point > 0xdfff {
			x.Letters = append(x.Letters, api.Span{Low: point, High: point, Name: point % 2})
		}
	}
	good(t, "a span for each code point", x)
	x.Letters[7].Name = 0
	refusedAs(t, "and two of one symbol side by side", x)
}

func TestP18_1_MaxEntries(t *testing.T) {
	x := small()
	x.Before = 0
	for i := range api.MaxEntries {
		x.Entries = append(x.Entries, strings.Repeat("\U0001f600", api.MaxEntry-4)+fmt.Sprintf("%04d", i))
	}
	good(t, "as many entries as can be", x)
	x.Entries = append(x.Entries, strings.Repeat("\U0001f600", api.MaxEntry))
	refusedAs(t, "one entry too many", x)
	x.Entries = x.Entries[1:]
	good(t, "without the first", x)
	x.Entries[1999] += "a"
	refusedAs(t, "one unit too many", x)
	x.Entries[1999] = strings.Repeat("\U0001f600", api.MaxEntry-1) + "\xf0"
	refusedAs(t, "a bad unit at the end", x)
}

// Patterns and Breaks have no limit.
func TestP18_1_ManyBreaks(t *testing.T) {
	x := small()
	x.Plain.Breaks = make([]bool, 1200000)
	x.Plain.Breaks[1199999] = true
	for n := range x.Plain.Breaks {
		x.Plain.Left.Out[0] = append(x.Plain.Left.Out[0], n)
	}
	x.Before = len(x.Plain.Breaks)
	good(t, "more than a million", x)
	x.Before++
	refusedAs(t, "Before is one more", x)
}

// What is far above a limit is refused, too, and not only after it was worked on.
func TestP18_5_FarAbove(t *testing.T) {
	machine := api.Machine{Next: slices.Repeat(lists(list(0)), 3000000), Out: make([][]int, 3000000)}
	x := small()
	x.Plain.Right = machine
	refusedAs(t, "three million states", x)
	x = small()
	x.Names, x.Spans = append(x.Names, "A"), make([]api.Span, 3000000)
	refusedAs(t, "three million spans", x)
	x = small()
	x.Names = slices.Repeat(x.Names, 3000000)
	refusedAs(t, "three million names", x)
	x = small()
	x.Entries, x.Before = slices.Repeat([]string{"a"}, 3000000), 0
	refusedAs(t, "three million entries", x)
	x = small()
	x.Letters = append(x.Letters, make([]api.Span, 3000000)...)
	refusedAs(t, "three million letters", x)
	if _, err := tables.Load(nil); err != api.ErrShort {
		t.Errorf("P18.3: %v", err)
	}
}
