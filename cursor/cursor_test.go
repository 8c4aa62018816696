package cursor_test

import (
	"math"
	"slices"
	"strings"
	"testing"

	"caesura/api"
	"caesura/breaker"
	"caesura/cursor"
)

const done = api.Done

func list(n ...int) []int { return n }

// built is a splitter that must be.
func built(t *testing.T, property, rules, bundle string, budget int) *breaker.Splitter {
	t.Helper()
	s, err := breaker.Build(property, rules, bundle, "en", budget)
	if err != nil {
		t.Fatalf("Build(%q, %q, %q, %d): %v", property, rules, bundle, budget, err)
	}
	return s
}

// behindPoints has a boundary behind each point, and nowhere else between the ends.
func behindPoints(t *testing.T) *breaker.Splitter {
	t.Helper()
	return built(t, "", "A: '.' <>\nelse ><", "", 100)
}

// nine is the text of the chapter's examples: nine bytes, with the boundaries 0, 4, 9.
const nine = "abc.efghi"

func is(t *testing.T, what string, got, want int) {
	t.Helper()
	if got != want {
		t.Errorf("%s = %d, want %d", what, got, want)
	}
}

// answers asks with each number in turn.
func answers(t *testing.T, what string, ask func(n int) int, pairs ...[2]int) {
	t.Helper()
	for _, p := range pairs {
		if got := ask(p[0]); got != p[1] {
			t.Errorf("%s(%d) = %d, want %d", what, p[0], got, p[1])
		}
	}
}

func TestP20_1_New(t *testing.T) {
	s := behindPoints(t)
	for _, text := range []string{"a", ".", "\xff", nine, "é", "\x00", "..", "\xe2\x82"} {
		is(t, "P20.1: Current() of a new cursor", cursor.New(s, text).Current(), 0)
	}
	is(t, "P20.1: Current() of the empty text", cursor.New(s, "").Current(), done)
}

func TestP20_Examples(t *testing.T) {
	c := cursor.New(behindPoints(t), nine)
	is(t, "P20.2: Current()", c.Current(), 0)
	is(t, "P20.3: Previous() at the first", c.Previous(), done)
	is(t, "P20.3: Next()", c.Next(), 4)
	is(t, "P20.3: Next()", c.Next(), 9)
	is(t, "P20.3: Next() at the last", c.Next(), done)
	is(t, "P20.2: Current()", c.Current(), 9)
	is(t, "P20.3: Previous()", c.Previous(), 4)
	is(t, "P20.3: First()", c.First(), 0)
	is(t, "P20.3: Last()", c.Last(), 9)
	is(t, "P20.2: Current()", c.Current(), 9)
	answers(t, "P20.4: Following", c.Following, [2]int{-5, 0}, [2]int{0, 4}, [2]int{4, 9}, [2]int{9, done})
	is(t, "P20.2: Current()", c.Current(), 9)
	answers(t, "P20.4: Preceding", c.Preceding, [2]int{100, 9}, [2]int{4, 0}, [2]int{0, done}, [2]int{2, 0})
	is(t, "P20.2: Current()", c.Current(), 0)
	for n, want := range map[int]bool{4: true, 5: false, -1: false, 9: true, 10: false} {
		if c.IsBoundary(n) != want {
			t.Errorf("P20.5: IsBoundary(%d) = %v", n, !want)
		}
	}
	answers(t, "P20.6: Move", c.Move, [2]int{2, 9}, [2]int{1, done}, [2]int{-1, 4}, [2]int{0, 4}, [2]int{math.MinInt, done})
	if got := c.Part(); got != "efghi" {
		t.Errorf("P20.7: Part() = %q", got)
	}
	is(t, "P20.3: Last()", c.Last(), 9)
	if got := c.Part(); got != "" {
		t.Errorf("P20.7: Part() at the last = %q", got)
	}
}

// Each call on the empty text stays and answers Done, one behind the other and alone.
func TestP20_Empty(t *testing.T) {
	for _, s := range []*breaker.Splitter{behindPoints(t), built(t, "", "else <>", "", 0)} {
		c := cursor.New(s, "")
		for range 2 {
			for name, ask := range map[string]func() int{"P20.2: Current": c.Current, "P20.3: First": c.First, "P20.3: Last": c.Last, "P20.3: Next": c.Next, "P20.3: Previous": c.Previous} {
				is(t, name+"() of the empty text", ask(), done)
			}
			for _, n := range list(0, 1, -1, 2, -2, math.MaxInt, math.MinInt) {
				is(t, "P20.4: Following of the empty text", c.Following(n), done)
				is(t, "P20.4: Preceding of the empty text", c.Preceding(n), done)
				is(t, "P20.6: Move of the empty text", c.Move(n), done)
				if c.IsBoundary(n) {
					t.Errorf("P20.5: IsBoundary(%d) of the empty text", n)
				}
			}
			if got := c.Part(); got != "" {
				t.Errorf("P20.7: Part() of the empty text = %q", got)
			}
		}
	}
}

// What is said to stay stays, from every place.
func TestP20_3_Stays(t *testing.T) {
	for _, at := range list(0, 4, 9) {
		c := cursor.New(behindPoints(t), nine)
		c.Following(at - 1)
		for name, ask := range map[string]func() int{
			"P20.4: Following(9)": func() int { return c.Following(9) }, "P20.4: Following(10)": func() int { return c.Following(10) }, "P20.4: Following(the greatest)": func() int { return c.Following(math.MaxInt) },
			"P20.4: Preceding(0)": func() int { return c.Preceding(0) }, "P20.4: Preceding(-1)": func() int { return c.Preceding(-1) }, "P20.4: Preceding(the least)": func() int { return c.Preceding(math.MinInt) },
			"P20.6: Move(3)": func() int { return c.Move(3) }, "P20.6: Move(-3)": func() int { return c.Move(-3) }, "P20.6: Move(the greatest)": func() int { return c.Move(math.MaxInt) }, "P20.6: Move(the least)": func() int { return c.Move(math.MinInt) },
		} {
			is(t, name, ask(), done)
			is(t, name+", then Current()", c.Current(), at)
		}
	}
	c := cursor.New(behindPoints(t), nine)
	is(t, "P20.3: Previous() at the first", c.Previous(), done)
	is(t, "P20.3: Previous() at the first", c.Previous(), done)
	is(t, "P20.3: Next() behind it", c.Next(), 4)
	c.Last()
	is(t, "P20.3: Next() at the last", c.Next(), done)
	is(t, "P20.3: Next() at the last", c.Next(), done)
	is(t, "P20.3: Previous() behind it", c.Previous(), 4)
}

// The edges of n: the ends of an int, at, beside and between boundaries, inside a unit. They do not hang on where the cursor stands.
func TestP20_4_Numbers(t *testing.T) {
	text := "a.é\xe2\x82.€." // 0, 2, 7, 11
	for _, start := range list(0, 2, 7, 11) {
		c := cursor.New(behindPoints(t), text)
		for _, p := range [][2]int{{math.MinInt, 0}, {math.MinInt + 1, 0}, {-1, 0}, {0, 2}, {1, 2}, {2, 7}, {3, 7}, {6, 7}, {7, 11}, {8, 11}, {10, 11}, {11, done}, {12, done}, {math.MaxInt, done}} {
			c.Following(start - 1)
			answers(t, "P20.4: Following", c.Following, p)
		}
		for _, p := range [][2]int{{math.MaxInt, 11}, {math.MaxInt - 1, 11}, {12, 11}, {11, 7}, {9, 7}, {8, 7}, {7, 2}, {4, 2}, {3, 2}, {2, 0}, {1, 0}, {0, done}, {-1, done}, {math.MinInt, done}} {
			c.Following(start - 1)
			answers(t, "P20.4: Preceding", c.Preceding, p)
		}
	}
}

// No offset inside a unit, nor outside the text, is a boundary.
func TestP20_5_IsBoundary(t *testing.T) {
	everywhere := built(t, "", "else <>", "", 9)
	for text, want := range map[string][]int{"a.é\xe2\x82€": list(0, 1, 2, 4, 5, 6, 9), "é": list(0, 2), "\xff": list(0, 1), "\U0010ffff": list(0, 4), "": nil} {
		c := cursor.New(everywhere, text)
		c.Next()
		at := c.Current()
		for n := -3; n < len(text)+3; n++ {
			if c.IsBoundary(n) != slices.Contains(want, n) {
				t.Errorf("P20.5: %q: IsBoundary(%d) = %v", text, n, c.IsBoundary(n))
			}
		}
		for _, n := range list(math.MinInt, math.MaxInt, math.MinInt+1, math.MaxInt-1) {
			if c.IsBoundary(n) {
				t.Errorf("P20.5: %q: IsBoundary(%d)", text, n)
			}
		}
		is(t, "P20.5: Current() behind IsBoundary", c.Current(), at)
	}
}

func TestP20_6_Move(t *testing.T) {
	text := "a.b.c.d" // 0, 2, 4, 6, 7
	want := list(0, 2, 4, 6, 7)
	for from, start := range want {
		for n := -7; n <= 7; n++ {
			c := cursor.New(behindPoints(t), text)
			c.Following(start - 1)
			answer, stands := done, start
			if to := from + n; to >= 0 && to < len(want) {
				answer, stands = want[to], want[to]
			}
			answers(t, "P20.6: Move", c.Move, [2]int{n, answer})
			is(t, "P20.6: Current() behind Move", c.Current(), stands)
		}
		for _, n := range list(math.MaxInt, math.MaxInt-1, math.MaxInt-4, math.MinInt, math.MinInt+1, math.MinInt+4) {
			c := cursor.New(behindPoints(t), text)
			c.Following(start - 1)
			answers(t, "P20.6: Move", c.Move, [2]int{n, done}, [2]int{0, start})
		}
	}
}

func TestP20_7_Part(t *testing.T) {
	text := "é.\xff\xe2\x82.Mr..\x00"
	c := cursor.New(behindPoints(t), text)
	for _, want := range []string{"é.", "\xff\xe2\x82.", "Mr.", ".", "\x00", ""} {
		at := c.Current()
		for range 2 {
			if got := c.Part(); got != want {
				t.Errorf("P20.7: Part() at %d = %q, want %q", at, got, want)
			}
		}
		is(t, "P20.7: Current() behind Part", c.Current(), at)
		c.Next()
	}
	c.First()
	if got := c.Part(); got != "é." {
		t.Errorf("P20.7: Part() at the first = %q", got)
	}
}

// goThrough is what a way of going answers, up to the first Done.
func goThrough(step func() int) []int {
	var all []int
	for n := step(); n != done; n = step() {
		all = append(all, n)
	}
	return all
}

func TestP20_8_Through(t *testing.T) {
	sentences := built(t, "0041..005A ; Upper\n0061..007A ; Lower\n002E ; ATerm\n0020 ; Sp\n", "suppress Sp\nA: ATerm Sp* >< Lower\nB: ATerm >< Sp\nC: ATerm Sp+ >< Sp\nD: ATerm Sp* <>\nelse ><\n", "[root]\n+ Mr.\n", 100)
	for _, s := range []*breaker.Splitter{behindPoints(t), sentences, built(t, "", "else <>", "", 9), built(t, "", "else ><", "", 9)} {
		for _, text := range []string{"", "a", "\xff", nine, "Hi. Mr. Fox. ok. So.", "...", "é.€.\xe2\x82. A", strings.Repeat("Hi. Mr. \xff\u00e9. ", 3000)} {
			want := s.Split(text)
			c := cursor.New(s, text)
			var parts strings.Builder
			all := goThrough(func() int {
				if len(want) == 0 || c.Current() == len(text) {
					return done
				}
				parts.WriteString(c.Part())
				return c.Next()
			})
			if parts.String() != text {
				t.Errorf("P20.8: %.50q: the parts are %.50q", text, parts.String())
			}
			if len(want) > 0 && !slices.Equal(all, want[1:]) {
				t.Errorf("P20.8: %.50q: Next goes through %.20v", text, all)
			}
			is(t, "P20.8: Next() behind all", c.Next(), done)
			back := goThrough(c.Previous)
			slices.Reverse(back)
			if len(want) > 0 && !slices.Equal(back, want[:len(want)-1]) {
				t.Errorf("P20.8: %.50q: Previous goes through %.20v", text, back)
			}
			is(t, "P20.8: Previous() ahead of all", c.Previous(), done)
		}
	}
}

// Behind a Next that went on Previous goes back, and the other way round, from every place.
func TestP20_8_BackAgain(t *testing.T) {
	s := behindPoints(t)
	for _, start := range s.Split("a.b..é.z") {
		c := cursor.New(s, "a.b..é.z")
		c.Following(start - 1)
		if c.Next() != done {
			is(t, "P20.8: Previous() behind Next", c.Previous(), start)
		}
		if c.Previous() != done {
			is(t, "P20.8: Next() behind Previous", c.Next(), start)
		}
		is(t, "P20.8: Current()", c.Current(), start)
	}
}

// Cursors of one splitter, of one text too, know nothing of one another; calls of the splitter, and what is done to their answers, change nothing.
func TestP20_9_Two(t *testing.T) {
	for _, budget := range list(0, 100) {
		s := built(t, "", "suppress\nA: '.' <>\nelse ><", "[root]\n+ Mr.\n", budget)
		text := "Hi.Mr.Fox.ok" // 0, 3, 10, 12
		a, b, other := cursor.New(s, text), cursor.New(s, text), cursor.New(s, "x.y")
		is(t, "P20.9: a.Last()", a.Last(), 12)
		is(t, "P20.9: b.Current()", b.Current(), 0)
		is(t, "P20.9: b.Next()", b.Next(), 3)
		is(t, "P20.9: other.Next()", other.Next(), 2)
		is(t, "P20.9: a.Previous()", a.Previous(), 10)
		spoiled := s.Split(text)
		for i := range spoiled {
			spoiled[i] = -7
		}
		_ = append(spoiled[:0], 5, 6, 7)
		s.Split("other. text.")
		s.Parts(text)
		s.Save()
		is(t, "P20.9: b.Move(0)", b.Move(0), 3)
		is(t, "P20.9: b.Next()", b.Next(), 10)
		is(t, "P20.9: other.Next()", other.Next(), 3)
		is(t, "P20.9: a.Move(-2)", a.Move(-2), 0)
		is(t, "P20.9: b.Current()", b.Current(), 10)
		if a.Part() != "Hi." || b.Part() != "ok" || other.Part() != "" {
			t.Errorf("P20.9: the parts are %q, %q, %q", a.Part(), b.Part(), other.Part())
		}
		is(t, "P20.9: a new one's Current()", cursor.New(s, text).Current(), 0)
	}
}
