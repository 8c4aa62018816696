package locale_test

import (
	"fmt"
	"math/rand"
	"regexp"
	"slices"
	"sort"
	"strings"
	"testing"

	"caesura/api"
	"caesura/bundle"
	"caesura/locale"
)

// section makes one of edits that begin with + or -.
func section(locale, parent string, edits ...string) api.Section {
	s := api.Section{Locale: locale, Parent: parent}
	for _, e := range edits {
		s.Edits = append(s.Edits, api.Edit{Add: e[0] == '+', Entry: e[1:]})
	}
	return s
}

func of(sections ...api.Section) api.Bundle { return api.Bundle{Sections: sections} }

// examples is the bundle of the chapter's examples.
func examples() api.Bundle {
	return of(section("root", "", "+Mr.", "+e.g."), section("en", "", "-e.g.", "+Dr."), section("en_GB", "", "+e.g."), section("pt_PT", "en_GB"),
		section("xx", "yy"), section("yy", "xx"), section("zz", "zz"))
}

// added is a section that adds so many entries from a number on.
func added(locale string, from, count int) api.Section {
	s := section(locale, "")
	for i := range count {
		s.Edits = append(s.Edits, api.Edit{Add: true, Entry: fmt.Sprint("e", from+i)})
	}
	return s
}

// path is n sections aa_0, aa_1 .. of which each names the next one as its parent, and the last one end.
func path(n int, end string) api.Bundle {
	var b api.Bundle
	for i := range n {
		b.Sections = append(b.Sections, section(fmt.Sprint("aa_", i), fmt.Sprint("aa_", i+1)))
	}
	b.Sections[n-1].Parent = end
	return b
}

func expectTag(t *testing.T, promise, tag, want string, wantErr error) {
	t.Helper()
	if got, err := locale.Canon(tag); got != want || err != wantErr {
		t.Errorf("%s: Canon(%q) = %q, %v, want %q, %v", promise, tag, got, err, want, wantErr)
	}
}

func expectCut(t *testing.T, promise, tag, want string, wantErr error) {
	t.Helper()
	if got, err := locale.Cut(tag); got != want || err != wantErr {
		t.Errorf("%s: Cut(%q) = %q, %v, want %q, %v", promise, tag, got, err, want, wantErr)
	}
}

func expectChain(t *testing.T, promise string, b api.Bundle, tag string, want []string, wantErr error) {
	t.Helper()
	got, err := locale.Chain(b, tag)
	if !slices.Equal(got, want) || err != wantErr {
		t.Errorf("%s: Chain(%.300q, %q) = %q, %v, want %q, %v", promise, fmt.Sprint(b), tag, got, err, want, wantErr)
	}
}

func expectEntries(t *testing.T, promise string, b api.Bundle, tag string, want []string, wantErr error) {
	t.Helper()
	got, err := locale.Resolve(b, tag)
	if !slices.Equal(got, want) || err != wantErr {
		t.Errorf("%s: Resolve(%.300q, %q) = %.300q, %v, want %.300q, %v", promise, fmt.Sprint(b), tag, got, err, want, wantErr)
	}
}

func TestP7_1_Examples(t *testing.T) {
	long := "abcdefgh-" + strings.Repeat("ABCD1234_", 6)
	for tag, want := range map[string]string{
		"EN": "en", "en-us": "en_US", "ZH_hant_hk": "zh_Hant_HK", "es-419": "es_419", "de-1996": "de_1996", "Root": "root",
		"root": "root", "ROOT": "root", "roo": "roo", "roots": "roots", "abcdefgh": "abcdefgh", "ABCD": "abcd", "AB": "ab", "AZ_AZ": "az_AZ", "az_zazz": "az_Zazz",
		"en-a": "en_a", "en-A": "en_a", "en-1": "en_1", "en-U1": "en_u1", "en-1U": "en_1u", "en-ABC": "en_abc", "en-A1BC": "en_a1bc", "en-ABC1": "en_abc1", "en-1ABC": "en_1abc",
		"en-ABCDE": "en_abcde", "en-ABCDEFGH": "en_abcdefgh", "en-ab-cd_EF": "en_AB_CD_EF", "en-root": "en_Root", "en-ROOT-root": "en_Root_Root", "sr-LATN-rs-X-Abcd1234": "sr_Latn_RS_x_abcd1234",
		long + "Z": strings.ToLower(strings.ReplaceAll(long, "-", "_")) + "z",
	} {
		expectTag(t, "P7.1", tag, want, nil)
	}
	for _, tag := range []string{
		"", "e", "e1", "1e", "12", "123", "en-", "en_", "-en", "_en", "-", "_", "--", "en--us", "en-_us", "en us", " en", "en ", "en\t", "en\n", "root_US", "ROOT-x", "root-", "Root_Root",
		"abcdefghi", "en-abcdefghi", "en-123456789", "en.us", "en\x00", "en-\xff", "\xffen", "\u00e9\u00e9", "en-\u212a", "\u212aa", "en-\u212aa", "en-a\u212a", "e\u0131", "e\u017f", "en-\u017f", "en-u\u017f",
		"en-@a", "en-[a", "en-`a", "en-{a", "en-/1", "en-:1", "[en]", "en]\n[de", "en\n", "en#",
		long, long + "12", strings.Repeat("a", 65), strings.Repeat("abc_", 17) + "abc", strings.Repeat("en-", 1<<16) + "us",
	} {
		expectTag(t, "P7.1", tag, "", api.ErrText)
		expectCut(t, "P7.2", tag, "", api.ErrText)
		expectChain(t, "P7.3", examples(), tag, nil, api.ErrText)
		expectEntries(t, "P7.4", examples(), tag, nil, api.ErrText)
	}
}

// TestP7_1_Length: 64 bytes are a tag, 65 are none.
func TestP7_1_Length(t *testing.T) {
	tag := "aaaaaaaa" + strings.Repeat("_bbb", 14)
	expectTag(t, "P7.1", tag, tag, nil)
	expectCut(t, "P7.2", tag, tag[:60], nil)
	expectTag(t, "P7.1", tag+"b", "", api.ErrText)
	expectCut(t, "P7.2", tag+"b", "", api.ErrText)
}

var (
	tagShape = regexp.MustCompile(`^[A-Za-z]{2,8}([-_][A-Za-z0-9]{1,8})*$`)
	region   = regexp.MustCompile(`^[a-z]{2}$`)
	script   = regexp.MustCompile(`^[a-z]{4}$`)
)

// formAfterWords is a tag's one form after chapter 6, by other means: all small, then regions and scripts changed where they stand.
func formAfterWords(tag string) (string, error) {
	form := strings.ToLower(strings.ReplaceAll(tag, "-", "_"))
	if len(tag) > 64 || !tagShape.MatchString(tag) || strings.HasPrefix(form, "root_") {
		return "", api.ErrText
	}
	parts := strings.Split(form, "_")
	for i, part := range parts[1:] {
		part = region.ReplaceAllStringFunc(part, strings.ToUpper)
		parts[i+1] = script.ReplaceAllStringFunc(part, strings.Title)
	}
	return strings.Join(parts, "_"), nil
}

// cutAfterWords is what Cut answers after P7.2.
func cutAfterWords(tag string) (string, error) {
	form, err := formAfterWords(tag)
	if err != nil {
		return "", err
	}
	if form == "root" {
		return "", api.ErrLost
	}
	parts := strings.Split(form, "_")
	if len(parts) == 1 {
		return "root", nil
	}
	return strings.Join(parts[:len(parts)-1], "_"), nil
}

func holdTag(t *testing.T, tag string) {
	t.Helper()
	want, err := formAfterWords(tag)
	expectTag(t, "P7.1", tag, want, err)
	want, err = cutAfterWords(tag)
	expectCut(t, "P7.2", tag, want, err)
}

// each goes through all texts of up to n pieces.
func each(pieces []string, n int, take func(string)) {
	take("")
	level := []string{""}
	for range n {
		var next []string
		for _, text := range level {
			for _, p := range pieces {
				next = append(next, text+p)
				take(text + p)
			}
		}
		level = next
	}
}

func TestP7_1_P7_2_AllSmallTexts(t *testing.T) {
	each([]string{"a", "Z", "7", "-", "_", " "}, 7, func(tag string) { holdTag(t, tag) })
	each([]string{"root", "RO", "ot", "en", "-", "_", "x", "419", "\u212a", "\xff"}, 5, func(tag string) { holdTag(t, tag) })
}

func TestP7_1_AllBytes(t *testing.T) {
	for b := range 256 {
		one := string([]byte{byte(b)})
		for _, tag := range []string{one, "e" + one, one + "e", "en" + one, "en-" + one, "en-a" + one, "en-" + one + "a", "en" + one + "us", "en-abc" + one, "en-" + one + "abc", "root" + one, "r" + one + "ot"} {
			holdTag(t, tag)
		}
	}
}

// randomTag is mostly a tag, now and then a text that is nearly one.
func randomTag(r *rand.Rand) string {
	const letters = "abcxyzABCXYZ"
	const all = letters + "0189"
	draw := func(from string, n int) string {
		var text strings.Builder
		for range n {
			text.WriteByte(from[r.Intn(len(from))])
		}
		return text.String()
	}
	tag := draw(letters, 1+r.Intn(8))
	for range r.Intn(10) {
		tag += draw("-_", 1) + draw([]string{letters, all}[r.Intn(2)], 1+r.Intn(8))
	}
	if r.Intn(10) == 0 {
		at := r.Intn(len(tag))
		tag = tag[:at] + []string{"", "-", "_", " ", "\xff", "\u212a", "abcdefgh"}[r.Intn(7)] + tag[at+r.Intn(2):]
	}
	return tag
}

func TestP7_1_P7_2_Samples(t *testing.T) {
	r := rand.New(rand.NewSource(71))
	good := 0
	for range 50000 {
		tag := randomTag(r)
		holdTag(t, tag)
		if _, err := locale.Canon(tag); err == nil {
			good++
		}
	}
	if good < 10000 {
		t.Errorf("only %d of the samples are tags", good)
	}
}

// TestP7_1_AsBundleSays: a tag and its form are what layer 6 takes them for.
func TestP7_1_AsBundleSays(t *testing.T) {
	each([]string{"ab", "Ro", "oT", "9", "-", "_", "c"}, 5, func(tag string) {
		b, _, err := bundle.Parse("[" + tag + "]")
		if err != nil {
			expectTag(t, "P7.1", tag, "", api.ErrText)
			return
		}
		expectTag(t, "P7.1", tag, b.Sections[0].Locale, nil)
	})
}

func TestP7_2_Examples(t *testing.T) {
	for tag, want := range map[string]string{
		"zh-Hant-HK": "zh_Hant", "ZH_HANT": "zh", "en": "root", "EN": "root", "roots": "root", "en-us": "en", "sl-ROZAJ-biske-1994": "sl_rozaj_biske", "en-root": "en", "en-a-b-c": "en_a_b",
	} {
		expectCut(t, "P7.2", tag, want, nil)
	}
	for _, tag := range []string{"root", "ROOT", "Root"} {
		expectCut(t, "P7.2", tag, "", api.ErrLost)
	}
	expectCut(t, "P7.2", "", "", api.ErrText)
}

func TestP7_3_Examples(t *testing.T) {
	b := examples()
	for tag, want := range map[string]string{
		"en-us": "en_US en root", "pt-pt": "pt_PT en_GB en root", "root": "root", "ROOT": "root", "EN": "en root", "pt": "pt root", "PT-pt-X": "pt_PT_x pt_PT en_GB en root", "fr_latn_fr": "fr_Latn_FR fr_Latn fr root",
	} {
		expectChain(t, "P7.3", b, tag, strings.Fields(want), nil)
		expectChain(t, "P7.3", of(section("pt_PT", "en_GB")), tag, strings.Fields(want), nil)
	}
	for _, tag := range []string{"xx", "yy-ZZ", "zz", "zz_AA", "yy", "xx-a-b-c"} {
		expectChain(t, "P7.3", b, tag, nil, api.ErrCycle)
		expectEntries(t, "P7.4", b, tag, nil, api.ErrCycle)
	}
	expectChain(t, "P7.3", api.Bundle{}, "en-us", []string{"en_US", "en", "root"}, nil)
}

// TestP7_3_Parents: a parent that is named goes ahead of the one that is cut, whatever it is.
func TestP7_3_Parents(t *testing.T) {
	for _, c := range []struct {
		b    api.Bundle
		want string
	}{
		{of(section("en_US", "root")), "en_US root"},
		{of(section("en_US", "")), "en_US en root"},
		{of(section("en_US", "en")), "en_US en root"},
		{of(section("en_US", "de_AT_x")), "en_US de_AT_x de_AT de root"},
		{of(section("en_US", "de_AT"), section("de_AT", "root"), section("de", "fr")), "en_US de_AT root"},
		{of(section("en", "fr_FR"), section("root", "", "+a")), "en_US en fr_FR fr root"},
		{of(section("en", "en_US_x")), ""},
		{of(section("en", "en_US")), ""},
		{of(section("en_US", "en_US_x")), ""},
		{of(section("en_US", "en_GB"), section("en_GB", "en_US")), ""},
	} {
		if c.want == "" {
			expectChain(t, "P7.3", c.b, "en-us", nil, api.ErrCycle)
			continue
		}
		expectChain(t, "P7.3", c.b, "en-us", strings.Fields(c.want), nil)
	}
}

// TestP7_3_Order: what bundle.Check says goes ahead of what Canon says, that ahead of the chain's own refusals.
func TestP7_3_Order(t *testing.T) {
	tooMany := of(added("en", 0, api.MaxEdits+1))
	for _, c := range []struct {
		b    api.Bundle
		want error
	}{
		{of(section("root", "en")), api.ErrArg},
		{of(section("EN", "")), api.ErrText},
		{of(section("", "")), api.ErrText},
		{of(section("en", "DE")), api.ErrText},
		{of(section("de", ""), section("de", "")), api.ErrTwice},
		{of(section("en", "en"), section("root", "root")), api.ErrArg},
		{of(section("de", "", "+\xff")), api.ErrText},
		{of(section("de", "", "-"+strings.Repeat("a", 33))), api.ErrMany},
		{tooMany, api.ErrMany},
	} {
		for _, tag := range []string{"en", "root", "", "e", "no tag"} {
			if bundle.Check(c.b) != c.want {
				t.Fatalf("bundle.Check(%.100q) is not %v", fmt.Sprint(c.b), c.want)
			}
			expectChain(t, "P7.3", c.b, tag, nil, c.want)
			expectEntries(t, "P7.4", c.b, tag, nil, c.want)
		}
	}
	expectChain(t, "P7.3", of(section("en", "en")), "en-", nil, api.ErrText)
}

func TestP7_3_Limit(t *testing.T) {
	for n := 13; n <= 18; n++ {
		b := path(n, "root")
		chain, err := locale.Chain(b, "aa-0")
		switch {
		case n < 16:
			if err != nil || len(chain) != n+1 || chain[0] != "aa_0" || chain[n] != "root" {
				t.Errorf("P7.3: %d locales and the root: %q, %v", n, chain, err)
			}
			expectEntries(t, "P7.4", b, "aa_0", nil, nil)
		default:
			expectChain(t, "P7.3", b, "aa_0", nil, api.ErrMany)
			expectEntries(t, "P7.4", b, "aa_0", nil, api.ErrMany)
		}
	}
	// By cutting alone: 15 parts and the root.
	tag := "aa" + strings.Repeat("-b", 14)
	if chain, err := locale.Chain(api.Bundle{}, tag); err != nil || len(chain) != 16 {
		t.Errorf("P7.3: %q, %v", chain, err)
	}
	expectChain(t, "P7.3", api.Bundle{}, tag+"_c", nil, api.ErrMany)
	expectChain(t, "P7.3", of(section("aa_b", "root")), tag+"_c", append(cuts(tag + "_c")[:15], "root"), nil)
}

// cuts is a tag and what is left of it, cut by cut.
func cuts(tag string) []string {
	parts := strings.Split(strings.ReplaceAll(tag, "-", "_"), "_")
	var list []string
	for n := len(parts); n > 0; n-- {
		list = append(list, strings.Join(parts[:n], "_"))
	}
	return list
}

// TestP7_3_CycleOrMany: with 16 locales in the list, one that stands there already is ErrCycle, another one ErrMany.
func TestP7_3_CycleOrMany(t *testing.T) {
	for _, end := range []string{"aa_0", "aa_7", "aa_14", "aa_15"} {
		expectChain(t, "P7.3", path(16, end), "aa_0", nil, api.ErrCycle)
		expectEntries(t, "P7.4", path(16, end), "aa_0", nil, api.ErrCycle)
	}
	for _, end := range []string{"root", "bb"} {
		expectChain(t, "P7.3", path(16, end), "aa_0", nil, api.ErrMany)
	}
	// A circle of 17 is never seen as one.
	expectChain(t, "P7.3", path(17, "aa_0"), "aa_0", nil, api.ErrMany)
	expectChain(t, "P7.3", path(16, "aa_0"), "aa_0_x", nil, api.ErrMany)
	expectChain(t, "P7.3", path(15, "aa_0"), "aa_0_x", nil, api.ErrCycle)
}

func TestP7_4_Examples(t *testing.T) {
	b := examples()
	for tag, want := range map[string]string{
		"en-us": "Dr. Mr.", "en_GB": "Dr. Mr. e.g.", "fr": "Mr. e.g.", "root": "Mr. e.g.", "ROOT": "Mr. e.g.", "en": "Dr. Mr.", "pt-PT": "Dr. Mr. e.g.", "pt_pt_x": "Dr. Mr. e.g.", "pt": "Mr. e.g.",
	} {
		expectEntries(t, "P7.4", b, tag, strings.Fields(want), nil)
	}
	expectEntries(t, "P7.4", api.Bundle{}, "en", nil, nil)
	expectEntries(t, "P7.4", api.Bundle{}, "root", nil, nil)
}

// TestP7_4_Edits: the last edit of an entry counts, in one section and along the chain.
func TestP7_4_Edits(t *testing.T) {
	for _, c := range []struct {
		root, en, us []string
		want         string
	}{
		{[]string{"+a"}, nil, nil, "a"},
		{[]string{"-a"}, nil, nil, ""},
		{[]string{"+a", "-a"}, nil, nil, ""},
		{[]string{"-a", "+a"}, nil, nil, "a"},
		{[]string{"+a", "+a", "+a"}, nil, nil, "a"},
		{[]string{"+a", "-a", "-a", "+a"}, nil, nil, "a"},
		{[]string{"+a"}, []string{"-a"}, nil, ""},
		{[]string{"-a"}, []string{"+a"}, nil, "a"},
		{[]string{"+a"}, []string{"-a"}, []string{"+a"}, "a"},
		{[]string{"-a"}, []string{"+a"}, []string{"-a"}, ""},
		{[]string{"+a", "+b"}, []string{"-b", "+c"}, []string{"+d", "-a"}, "c d"},
		{[]string{"+a"}, []string{"+a"}, []string{"+a"}, "a"},
		{nil, []string{"-a"}, []string{"+A", "+\u00e9", "+e", "+z.", "+z", "+\U00010000", "+\uffff", "+10", "+9"}, "10 9 A e z z. \u00e9 \uffff \U00010000"},
	} {
		b := of(section("en_US", "", c.us...), section("root", "", c.root...), section("en", "", c.en...))
		expectEntries(t, "P7.4", b, "en-us", strings.Fields(c.want), nil)
	}
}

// TestP7_4_TextsAreBytes: entries that fold or trim or normalize to each other are different ones.
func TestP7_4_TextsAreBytes(t *testing.T) {
	b := of(section("root", "", "+a", "+A", "+a ", "+ a", "+\u00e9", "+e\u0301", "+\x00"), section("en", "", "-a"))
	expectEntries(t, "P7.4", b, "en", []string{"\x00", " a", "A", "a ", "e\u0301", "\u00e9"}, nil)
}

func TestP7_4_Limit(t *testing.T) {
	for _, c := range []struct {
		b     api.Bundle
		count int
		err   error
	}{
		{of(added("en", 0, 2000)), 2000, nil},
		{of(added("en", 0, 2001)), 0, api.ErrMany},
		{of(added("root", 0, 1000), added("en", 1000, 1000)), 2000, nil},
		{of(added("root", 0, 1001), added("en", 1000, 1001)), 0, api.ErrMany},
		{of(added("root", 0, 2000), added("en", 0, 2000)), 2000, nil},
		{of(added("root", 0, 2000), added("de", 2000, 2000)), 2000, nil},
		{of(added("root", 0, 20000)), 0, api.ErrMany},
	} {
		got, err := locale.Resolve(c.b, "en")
		if len(got) != c.count || err != c.err {
			t.Errorf("P7.4: %d entries, %v, want %d, %v", len(got), err, c.count, c.err)
		}
	}
}

// TestP7_4_LimitInTheEnd: on the way there may be more.
func TestP7_4_LimitInTheEnd(t *testing.T) {
	fewer := section("en", "")
	for i := range 500 {
		fewer.Edits = append(fewer.Edits, api.Edit{Entry: fmt.Sprint("e", i)})
	}
	b := of(added("root", 0, 2500), fewer)
	got, err := locale.Resolve(b, "en")
	if len(got) != 2000 || err != nil || !slices.IsSorted(got) || slices.Contains(got, "e499") || !slices.Contains(got, "e500") {
		t.Errorf("P7.4: %d entries, %v", len(got), err)
	}
	expectEntries(t, "P7.4", b, "root", nil, api.ErrMany)
	b.Sections[1].Edits = b.Sections[1].Edits[1:]
	expectEntries(t, "P7.4", b, "en", nil, api.ErrMany)
	within := added("en", 0, 3000)
	for i := range 3000 {
		within.Edits = append(within.Edits, api.Edit{Entry: fmt.Sprint("e", i)})
	}
	expectEntries(t, "P7.4", of(within), "en", nil, nil)
}

// chainAfterWords goes up from a locale by recursion, with what stands in the list so far.
func chainAfterWords(b api.Bundle, list []string) ([]string, error) {
	last := list[len(list)-1]
	if last == "root" {
		return list, nil
	}
	parent, _ := cutAfterWords(last)
	for _, s := range b.Sections {
		if s.Locale == last && s.Parent != "" {
			parent = s.Parent
		}
	}
	for _, l := range list {
		if l == parent {
			return nil, api.ErrCycle
		}
	}
	if len(list) >= 16 {
		return nil, api.ErrMany
	}
	return chainAfterWords(b, append(list, parent))
}

// entriesAfterWords makes edit by edit on a sorted list.
func entriesAfterWords(b api.Bundle, chain []string) []string {
	var list []string
	for i := len(chain) - 1; i >= 0; i-- {
		for _, s := range b.Sections {
			if s.Locale == chain[i] {
				list = edited(list, s.Edits)
			}
		}
	}
	return list
}

func edited(list []string, edits []api.Edit) []string {
	list = slices.Clone(list)
	for _, e := range edits {
		at := sort.SearchStrings(list, e.Entry)
		there := at < len(list) && list[at] == e.Entry
		switch {
		case e.Add && !there:
			list = slices.Insert(list, at, e.Entry)
		case !e.Add && there:
			list = slices.Delete(list, at, at+1)
		}
	}
	return list
}

func pool() []string {
	return []string{"root", "aa", "aa_BB", "aa_BB_c", "bb", "bb_Cccc", "bb_Cccc_DD", "cc", "cc_1", "dd"}
}

func randomBundle(r *rand.Rand) api.Bundle {
	locales := pool()
	r.Shuffle(len(locales), func(i, j int) { locales[i], locales[j] = locales[j], locales[i] })
	var b api.Bundle
	for _, l := range locales[:r.Intn(len(locales)+1)] {
		s := section(l, "")
		if l != "root" && r.Intn(3) == 0 {
			s.Parent = pool()[r.Intn(len(pool()))]
		}
		for range r.Intn(6) {
			s.Edits = append(s.Edits, api.Edit{Add: r.Intn(3) > 0, Entry: []string{"a", "b", "B", "ab", "\u00e9", "z. B."}[r.Intn(6)]})
		}
		b.Sections = append(b.Sections, s)
	}
	return b
}

func TestP7_3_P7_4_Samples(t *testing.T) {
	r := rand.New(rand.NewSource(73))
	circles, lists := 0, 0
	for range 5000 {
		b := randomBundle(r)
		for _, tag := range append(pool(), "aa_BB_c_d_e", "ee_FF") {
			chain, err := chainAfterWords(b, []string{tag})
			expectChain(t, "P7.3", b, strings.ToUpper(tag), chain, err)
			expectEntries(t, "P7.4", b, strings.ReplaceAll(tag, "_", "-"), entriesAfterWords(b, chain), err)
			if err != nil {
				circles++
			} else {
				lists++
			}
		}
	}
	if circles < 1000 || lists < 1000 {
		t.Errorf("the samples are one-sided: %d circles, %d lists", circles, lists)
	}
}

// TestP7_3_LongSamples: chains of about 16 locales, with parents anywhere.
func TestP7_3_LongSamples(t *testing.T) {
	r := rand.New(rand.NewSource(74))
	seen := map[error]int{}
	for range 20000 {
		b := path(12+r.Intn(8), "root")
		for range r.Intn(3) {
			b.Sections[r.Intn(len(b.Sections))].Parent = []string{"root", "aa_3", "aa_12_x_y", "aa_17", "bb_1_2_3", "aa_15"}[r.Intn(6)]
		}
		tag := []string{"aa_0", "aa_1_x", "aa_3"}[r.Intn(3)]
		chain, err := chainAfterWords(b, []string{tag})
		expectChain(t, "P7.3", b, tag, chain, err)
		seen[err]++
	}
	if seen[nil] < 100 || seen[api.ErrCycle] < 100 || seen[api.ErrMany] < 100 {
		t.Errorf("the samples are one-sided: %v", seen)
	}
}

// folded is a tag but for - against _ and capital against small letters.
func folded(tag string) string { return strings.ToLower(strings.ReplaceAll(tag, "-", "_")) }

func TestP7_5_OneForm(t *testing.T) {
	formOf, foldOf := map[string]string{}, map[string]string{}
	each([]string{"a", "B", "bc", "DE", "Latn", "7", "-", "_"}, 5, func(tag string) {
		form, err := locale.Canon(tag)
		if err != nil {
			return
		}
		expectTag(t, "P7.5", form, form, nil)
		expectTag(t, "P7.5", folded(tag), form, nil)
		if known, ok := formOf[folded(tag)]; ok && known != form {
			t.Errorf("P7.5: Canon(%q) = %q, of another letter's size %q", tag, form, known)
		}
		if known, ok := foldOf[form]; ok && known != folded(tag) {
			t.Errorf("P7.5: Canon(%q) = %q, as that of %q", tag, form, known)
		}
		formOf[folded(tag)], foldOf[form] = form, folded(tag)
	})
	if len(formOf) < 1000 {
		t.Errorf("only %d tags", len(formOf))
	}
}

func TestP7_5_CutIsShorter(t *testing.T) {
	r := rand.New(rand.NewSource(75))
	for range 20000 {
		tag := randomTag(r)
		form, err := locale.Canon(tag)
		if err != nil || form == "root" {
			continue
		}
		cut, err := locale.Cut(tag)
		if err != nil || cut != "root" && (len(cut) >= len(form) || !strings.HasPrefix(form, cut+"_")) {
			t.Errorf("P7.5: Cut(%q) = %q, %v, and its form is %q", tag, cut, err, form)
		}
		expectTag(t, "P7.5", cut, cut, nil)
	}
}

func TestP7_6_Fold(t *testing.T) {
	r := rand.New(rand.NewSource(76))
	for range 3000 {
		b := randomBundle(r)
		for _, tag := range pool() {
			chain, err := locale.Chain(b, tag)
			if err != nil || len(chain) < 2 {
				continue
			}
			above, err := locale.Resolve(b, chain[1])
			if err != nil {
				t.Errorf("P7.6: of the parent of %q: %v", tag, err)
			}
			for _, s := range b.Sections {
				if s.Locale == tag {
					above = edited(above, s.Edits)
				}
			}
			expectEntries(t, "P7.6", b, tag, above, nil)
		}
	}
}

// TestP7_6_OtherSections: those that do not stand in the chain may be gone, or be others, and stand in any order.
func TestP7_6_OtherSections(t *testing.T) {
	r := rand.New(rand.NewSource(77))
	for range 3000 {
		b := randomBundle(r)
		for _, tag := range pool() {
			chain, err := locale.Chain(b, tag)
			if err != nil {
				continue
			}
			want, _ := locale.Resolve(b, tag)
			alone := of(slices.DeleteFunc(slices.Clone(b.Sections), func(s api.Section) bool { return !slices.Contains(chain, s.Locale) })...)
			expectEntries(t, "P7.6", alone, tag, want, nil)
			more := append([]api.Section{section("zz", "zz", "+a", "-b")}, alone.Sections...)
			slices.Reverse(more)
			expectEntries(t, "P7.6", of(more...), tag, want, nil)
		}
	}
	// One with a fault changes the answer all the same.
	b := examples()
	b.Sections = append(b.Sections, section("qq", "", "+\xff"))
	expectEntries(t, "P7.6", b, "en", nil, api.ErrText)
}

// TestP0_2_SameAnswers: nothing hangs on the order in which a map is gone through.
func TestP0_2_SameAnswers(t *testing.T) {
	b := of(added("root", 0, 2000))
	want, _ := locale.Resolve(b, "en")
	for range 20 {
		expectEntries(t, "P0.2", b, "en", want, nil)
	}
}

// TestP0_5_AnswersAreNew: who writes into an answer, spare room too, changes no other one.
func TestP0_5_AnswersAreNew(t *testing.T) {
	b := examples()
	chain, _ := locale.Chain(b, "pt_PT")
	entries, _ := locale.Resolve(b, "pt_PT")
	for _, list := range [][]string{chain, entries} {
		list = list[:cap(list)]
		for i := range list {
			list[i] = "changed"
		}
	}
	expectChain(t, "P0.5", b, "pt_PT", []string{"pt_PT", "en_GB", "en", "root"}, nil)
	expectEntries(t, "P0.5", b, "pt_PT", []string{"Dr.", "Mr.", "e.g."}, nil)
}

// TestP0_5_ArgumentsStay: neither the lists nor the spare room behind them is changed.
func TestP0_5_ArgumentsStay(t *testing.T) {
	fresh := func() []api.Section {
		return []api.Section{section("en", "de", "+b", "-a", "+spare"), section("de", "", "+c", "+a"), section("SPARE", "", "+")}
	}
	sections := fresh()
	sections[0].Edits = sections[0].Edits[:2]
	expectEntries(t, "P0.5", of(sections[:2]...), "en", []string{"b", "c"}, nil)
	expectChain(t, "P0.5", of(sections[:2]...), "en", []string{"en", "de", "root"}, nil)
	sections[0].Edits = sections[0].Edits[:3]
	if fmt.Sprint(sections) != fmt.Sprint(fresh()) {
		t.Errorf("P0.5: the argument was changed: %q", fmt.Sprint(sections))
	}
}
