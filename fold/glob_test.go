package fold_test

import (
	"slices"
	"strings"
	"testing"
	"unsafe"

	"pouch/api"
	"pouch/fold"
	"pouch/samples"
)

// keyOf is the comparison key of s, as the chapter defines it.
func keyOf(comp int, s string) string {
	if comp == api.ByCase {
		return foldedOf(s)
	}
	return s
}

// globOf matches s against a pattern as the chapter defines it, by trying all matches, those first in which the first `*` matches the fewest units.
func globOf(comp int, pattern, s string) ([]string, bool) {
	if comp == api.ByNumber {
		return nil, false
	}
	return matchUnits(unitsOf(keyOf(comp, pattern)), unitsOf(keyOf(comp, s)), unitsOf(s))
}

// matchUnits matches the units keys; parts are the units of the string itself.
func matchUnits(pattern, keys, parts []string) ([]string, bool) {
	if len(pattern) == 0 {
		return nil, len(keys) == 0
	}
	unit, rest := pattern[0], pattern[1:]
	if unit == "*" {
		for n := range len(keys) + 1 {
			if more, ok := matchUnits(rest, keys[n:], parts[n:]); ok {
				return append([]string{strings.Join(parts[:n], "")}, more...), true
			}
		}
		return nil, false
	}
	if len(keys) == 0 {
		return nil, false
	}
	if unit == "?" {
		more, ok := matchUnits(rest, keys[1:], parts[1:])
		if !ok {
			return nil, false
		}
		return append([]string{parts[0]}, more...), true
	}
	if unit == `\` && len(rest) > 0 {
		unit, rest = rest[0], rest[1:]
	}
	if unit != keys[0] {
		return nil, false
	}
	return matchUnits(rest, keys[1:], parts[1:])
}

// substituted is the pattern with parts in the place of its wildcards, and how many of them it has.
func substituted(pattern string, parts []string) (string, int) {
	units := unitsOf(pattern)
	var text strings.Builder
	wildcards := 0
	for i := 0; i < len(units); i++ {
		unit := units[i]
		switch {
		case unit == "*" || unit == "?":
			if wildcards < len(parts) {
				text.WriteString(parts[wildcards])
			}
			wildcards++
			continue
		case unit == `\` && i+1 < len(units):
			i++
			unit = units[i]
		}
		text.WriteString(unit)
	}
	return text.String(), wildcards
}

// P5.3: patterns, strings that match them, and the parts that their wildcards matched.
func TestGlobMatches(t *testing.T) {
	for _, c := range []struct {
		comp       int
		pattern, s string
		want       []string
	}{
		{api.ByCase, "", "", nil},
		{api.ByCase, "abc", "abc", nil},
		{api.ByCase, "aBC", "Abc", nil},
		{api.ByCase, "ÄΣ", "äσ", nil},
		{api.ByCase, "*", "", []string{""}},
		{api.ByCase, "*", "AbÄ\xff", []string{"AbÄ\xff"}},
		{api.ByCase, "**", "ab", []string{"", "ab"}},
		{api.ByCase, "***", "", []string{"", "", ""}},
		{api.ByCase, "****", "Ab", []string{"", "", "", "Ab"}},
		{api.ByCase, "a**b", "aXYb", []string{"", "XY"}},
		{api.ByCase, "**a**", "bac", []string{"", "b", "", "c"}},
		{api.ByCase, "?", "x", []string{"x"}},
		{api.ByCase, "?", "Ä", []string{"Ä"}},
		{api.ByCase, "?", "€", []string{"€"}},
		{api.ByCase, "?", "😀", []string{"😀"}},
		{api.ByCase, "?", "\xc3", []string{"\xc3"}},
		{api.ByCase, "?", "*", []string{"*"}},
		{api.ByCase, "??", "\xc3\xc3", []string{"\xc3", "\xc3"}},
		{api.ByCase, "??", "\xc1\x81", []string{"\xc1", "\x81"}},
		{api.ByCase, "???", "\xed\xa0\x80", []string{"\xed", "\xa0", "\x80"}},
		{api.ByCase, "a?c?", "AÄC\xff", []string{"Ä", "\xff"}},
		{api.ByCase, "A?c", "abC", []string{"b"}},
		{api.ByCase, "*b?", "abcbd", []string{"abc", "d"}},
		{api.ByCase, "a*b*c", "aXbYbZc", []string{"X", "YbZ"}},
		{api.ByCase, "*a*", "banana", []string{"b", "nana"}},
		{api.ByCase, "*an*", "banana", []string{"b", "ana"}},
		{api.ByCase, "*a*a*", "banana", []string{"b", "n", "na"}},
		{api.ByCase, "*a", "banana", []string{"banan"}},
		{api.ByCase, "*a*na", "banana", []string{"b", "na"}},
		{api.ByCase, "*ab", "aab", []string{"a"}},
		{api.ByCase, "*ab*", "aabab", []string{"a", "ab"}},
		{api.ByCase, "a*a", "aa", []string{""}},
		{api.ByCase, "*?", "ab", []string{"a", "b"}},
		{api.ByCase, "?*", "ab", []string{"a", "b"}},
		{api.ByCase, "*?*", "aÄb", []string{"", "a", "Äb"}},
		{api.ByCase, "*?b?*", "xbby", []string{"", "x", "b", "y"}},
		{api.ByCase, "?*?", "ab", []string{"a", "", "b"}},
		{api.ByCase, "*@*.example", "Ann@Mail.b.Example", []string{"Ann", "Mail.b"}},
		{api.ByCase, `a\*`, "A*", nil},
		{api.ByCase, `a\?`, "A?", nil},
		{api.ByCase, `a\\`, `A\`, nil},
		{api.ByCase, `\\*`, `\ab`, []string{"ab"}},
		{api.ByCase, `\B\Ä\😀\` + "\xff", "bä😀\xff", nil},
		{api.ByCase, `a\`, `a\`, nil},
		{api.ByCase, `\`, `\`, nil},
		{api.ByCase, `\\\`, `\\`, nil},
		{api.ByCase, `*\`, `a\b\`, []string{`a\b`}},
		{api.ByCase, `*\**`, "a*b", []string{"a", "b"}},
		{api.ByCase, `\*?\?*`, "*A?", []string{"A", ""}},
		{api.ByOctet, "A?c", "Abc", []string{"b"}},
		{api.ByOctet, "*Ä?", "äÄä", []string{"ä", "ä"}},
		{api.ByOctet, `\` + "\xc4*", "\xc4\xe4", []string{"\xe4"}},
		{0, "b*", "bB", []string{"B"}},
		{-1, "?", "😀", []string{"😀"}},
		{9, `\*`, "*", nil},
	} {
		if got, ok := fold.Glob(c.comp, c.pattern, c.s); !ok || !slices.Equal(got, c.want) {
			t.Errorf("Glob(%d, %q, %q) = %q, %v, want %q", c.comp, c.pattern, c.s, got, ok, c.want)
		}
	}
}

// P5.3, R3: patterns that do not match; nothing stands beside the false.
func TestGlobDoesNotMatch(t *testing.T) {
	for _, c := range []struct {
		comp       int
		pattern, s string
	}{
		{api.ByCase, "", "a"},
		{api.ByCase, "a", ""},
		{api.ByCase, "a", "aa"},
		{api.ByCase, "aa", "a"},
		{api.ByCase, "a", "b"},
		{api.ByCase, "?", ""},
		{api.ByCase, "?", "ab"},
		{api.ByCase, "?", "\xc3\xc3"},
		{api.ByCase, "??", "Ä"},
		{api.ByCase, "?", "e\u0301"},
		{api.ByCase, "\xc3?", "Ä"},
		{api.ByCase, "\xc3*", "Ä"},
		{api.ByCase, "*\xa4", "ä"},
		{api.ByCase, "*\x84", "Ä"},
		{api.ByCase, `\` + "\xc3" + `\` + "\x84", "Ä"},
		{api.ByCase, "\xc4", "\xe4"},
		{api.ByCase, "*a", "aab"},
		{api.ByCase, "a*", "ba"},
		{api.ByCase, "a*a", "a"},
		{api.ByCase, "ab*ba", "aba"},
		{api.ByCase, "*ab*ab", "xaby"},
		{api.ByCase, "*ab*ab", "abb"},
		{api.ByCase, "*a*b*c", "acb"},
		{api.ByCase, "?*?", "a"},
		{api.ByCase, "*?", ""},
		{api.ByCase, "a?b*", "ab"},
		{api.ByCase, `a\*`, "ab"},
		{api.ByCase, `a\*`, `a\b`},
		{api.ByCase, `a\?`, "ab"},
		{api.ByCase, `\\`, `\\`},
		{api.ByCase, `\a`, `\a`},
		{api.ByCase, `\`, ""},
		{api.ByCase, `\`, "a"},
		{api.ByCase, `a\`, "a"},
		{api.ByCase, "[ab]", "a"},
		{api.ByCase, "K", "\u212a"},
		{api.ByOctet, "A?c", "abc"},
		{api.ByOctet, "Ä", "ä"},
		{api.ByOctet, "*A", "a"},
		{9, "b*", "Bb"},
		{api.ByNumber, "*", "1"},
		{api.ByNumber, "1", "1"},
		{api.ByNumber, "", ""},
		{api.ByNumber, "?", "7"},
	} {
		if got, ok := fold.Glob(c.comp, c.pattern, c.s); ok || len(got) != 0 {
			t.Errorf("Glob(%d, %q, %q) = %q, %v", c.comp, c.pattern, c.s, got, ok)
		}
	}
}

// checkGlob holds Glob against the chapter's definition, and the parts against the string when they stand in the place of the wildcards.
func checkGlob(t *testing.T, comp int, pattern, s string) {
	t.Helper()
	got, ok := fold.Glob(comp, pattern, s)
	want, matches := globOf(comp, pattern, s)
	if ok != matches || !slices.Equal(got, want) {
		t.Fatalf("Glob(%d, %q, %q) = %q, %v, want %q, %v", comp, pattern, s, got, ok, want, matches)
	}
	if !ok {
		return
	}
	text, wildcards := substituted(pattern, got)
	if wildcards != len(got) || fold.Order(comp, text, s) != 0 {
		t.Fatalf("Glob(%d, %q, %q): with %q, the pattern is %q", comp, pattern, s, got, text)
	}
}

// P5.3, P5.6: all short patterns of letters and wildcards with all short strings.
func TestGlobOfShortPatterns(t *testing.T) {
	patterns, strs := samples.Words(`aB*?\`, 4), samples.Words(`aAb*\`, 4)
	for _, pattern := range patterns {
		for _, s := range strs {
			checkGlob(t, api.ByCase, pattern, s)
		}
	}
	patterns, strs = samples.Words("a*?", 6), samples.Words("ab", 6)
	for _, pattern := range patterns {
		for _, s := range strs {
			checkGlob(t, api.ByOctet, pattern, s)
		}
	}
}

// P5.3, P5.6: all short patterns of runes of two bytes and of invalid bytes with all short strings of them.
func TestGlobOfBrokenStrings(t *testing.T) {
	patterns, strs := samples.Words("\xc3\x84\xa4*?\\", 4), samples.Words("\xc3\x84\xa4a", 4)
	for _, pattern := range patterns {
		for _, s := range strs {
			checkGlob(t, api.ByCase, pattern, s)
		}
	}
	for _, comp := range collations {
		for _, pattern := range samples.Words("\xc3\xa4*?", 3) {
			for _, s := range samples.Words("\xc3\x84\xa4", 4) {
				checkGlob(t, comp, pattern, s)
			}
		}
	}
}

// P5.3, P5.6, P1: strings of all kinds match `*`, themselves, and as many `?` as they have units.
func TestGlobOfAnyStrings(t *testing.T) {
	for i, s := range samples.Texts() {
		comp := []int{api.ByCase, api.ByOctet, 9}[i%3]
		units := unitsOf(s)
		if got, ok := fold.Glob(comp, "*", s); !ok || len(got) != 1 || got[0] != s {
			t.Errorf("Glob(%d, *, %.40q) = %.40q, %v", comp, s, got, ok)
		}
		if got, ok := fold.Glob(comp, strings.Repeat("?", len(units)), s); !ok || !slices.Equal(got, units) {
			t.Errorf("Glob of %.40q with a ? for each unit = %.40q, %v", s, got, ok)
		}
		quoted := ""
		if len(units) > 0 {
			quoted = `\` + strings.Join(units, `\`)
		}
		if got, ok := fold.Glob(comp, quoted, s); !ok || len(got) != 0 {
			t.Errorf("Glob(%d, %.40q, %.40q) = %.40q, %v", comp, quoted, s, got, ok)
		}
	}
}

// P1: many wildcards over a long string do not lead to a search without an end.
func TestGlobOfManyWildcards(t *testing.T) {
	s := strings.Repeat("a", 5000)
	if got, ok := fold.Glob(api.ByCase, strings.Repeat("*a", 500)+"*b", s); ok || len(got) != 0 {
		t.Errorf("Glob = %d parts, %v", len(got), ok)
	}
	got, ok := fold.Glob(api.ByCase, strings.Repeat("*?a", 500)+"*", s)
	if !ok || len(got) != 1001 || got[1000] != s[1000:] {
		t.Errorf("Glob = %d parts, %v", len(got), ok)
	}
	if got, ok := fold.Glob(api.ByCase, strings.Repeat("*", 5000), s); !ok || len(got) != 5000 || got[4999] != s {
		t.Errorf("Glob = %d parts, %v", len(got), ok)
	}
}

// P5.5, R2: the calls change and keep none of their arguments: the answers stay as they are when the memory of these is written over.
func TestArgumentsAreNotKept(t *testing.T) {
	const text, pattern = "aÄb\xffC€xyzD", "?*\xff?*z?"
	textBytes, patternBytes := []byte(text), []byte(pattern)
	s := unsafe.String(&textBytes[0], len(textBytes))
	p := unsafe.String(&patternBytes[0], len(patternBytes))
	for _, comp := range collations {
		units, folded, low := fold.Units(s), fold.Fold(s), fold.Fold(p)
		parts, ok := fold.Glob(comp, p, s)
		fold.Equal(s, p)
		fold.Order(comp, s, p)
		fold.Holds(comp, api.MMatches, s, p)
		fold.Holds(comp, api.MContains, s, p)
		if string(textBytes) != text || string(patternBytes) != pattern {
			t.Fatal("an argument changed")
		}
		clear(textBytes)
		clear(patternBytes)
		if !slices.Equal(units, []string{"a", "Ä", "b", "\xff", "C", "€", "x", "y", "z", "D"}) || folded != "aäb\xffc€xyzd" || low != pattern {
			t.Errorf("an argument is kept: %q, %q, %q", units, folded, low)
		}
		if ok != (comp != api.ByNumber) || ok && !slices.Equal(parts, []string{"a", "Äb", "C", "€xy", "D"}) {
			t.Errorf("an argument is kept: %q, %v", parts, ok)
		}
		copy(textBytes, text)
		copy(patternBytes, pattern)
	}
}

// P5.5: the slices that are returned are new ones: a change of one is not to be seen in another.
func TestAnswersAreFresh(t *testing.T) {
	units, again := fold.Units("abc"), fold.Units("abc")
	parts, _ := fold.Glob(api.ByCase, "*b?", "abc")
	partsAgain, _ := fold.Glob(api.ByCase, "*b?", "abc")
	for i := range units {
		units[i] = "changed"
	}
	for i := range parts {
		parts[i] = "changed"
	}
	_, _ = append(units[:1], "x"), append(parts[:1], "x")
	if want := []string{"a", "b", "c"}; !slices.Equal(again, want) || !slices.Equal(fold.Units("abc"), want) {
		t.Errorf("the answers of Units changed: %q, %q", again, fold.Units("abc"))
	}
	later, ok := fold.Glob(api.ByCase, "*b?", "abc")
	if want := []string{"a", "c"}; !ok || !slices.Equal(partsAgain, want) || !slices.Equal(later, want) {
		t.Errorf("the answers of Glob changed: %q, %q", partsAgain, later)
	}
}
