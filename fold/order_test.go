package fold_test

import (
	"cmp"
	"math"
	"math/big"
	"strings"
	"testing"

	"pouch/api"
	"pouch/fold"
	"pouch/samples"
)

// collations are the three that the chapter names and integers that name none.
var collations = []int{api.ByCase, api.ByOctet, api.ByNumber, 0, -1, 4, 9, 257, math.MinInt, math.MaxInt}

const veryLong = "99999999999999999999999999999999999999999999999999"

// orderOf compares two strings as the chapter defines it.
func orderOf(comp int, a, b string) int {
	switch comp {
	case api.ByCase:
		return cmp.Compare(foldedOf(a), foldedOf(b))
	case api.ByNumber:
		x, y := numberOf(a), numberOf(b)
		switch {
		case x != nil && y != nil:
			return x.Cmp(y)
		case x == nil && y == nil:
			return 0
		case x == nil:
			return 1
		}
		return -1
	}
	return cmp.Compare(a, b)
}

// numberOf is the numeric value of s, nil if it has none.
func numberOf(s string) *big.Int {
	end := len(s) - len(strings.TrimLeft(s, "0123456789"))
	if end == 0 {
		return nil
	}
	n, _ := new(big.Int).SetString(s[:end], 10)
	return n
}

// P5.2: Order under each collation, and under integers that name none, both ways round.
func TestOrder(t *testing.T) {
	for _, c := range []struct {
		comp int
		a, b string
		want int
	}{
		{api.ByCase, "", "", 0},
		{api.ByCase, "", "a", -1},
		{api.ByCase, "a", "A", 0},
		{api.ByCase, "ÄΣЖŸ", "äσжÿ", 0},
		{api.ByCase, "a", "B", -1},
		{api.ByCase, "A", "b", -1},
		{api.ByCase, "Z", "a", 1},
		{api.ByCase, "_", "A", -1},
		{api.ByCase, "ab", "ABC", -1},
		{api.ByCase, "z", "Ä", -1},
		{api.ByCase, "10", "9", -1},
		{api.ByCase, "\xff", "\U0010ffff", 1},
		{api.ByCase, "\xc4", "\xe4", -1},
		{api.ByOctet, "", "", 0},
		{api.ByOctet, "a", "a", 0},
		{api.ByOctet, "a", "A", 1},
		{api.ByOctet, "a", "B", 1},
		{api.ByOctet, "_", "A", 1},
		{api.ByOctet, "ab", "abc", -1},
		{api.ByOctet, "a\x00", "a", 1},
		{api.ByOctet, "10", "9", -1},
		{api.ByOctet, "7f", "\x80", -1},
		{api.ByOctet, "\xff", "€", 1},
		{api.ByNumber, "7", "7", 0},
		{api.ByNumber, "10", "9", 1},
		{api.ByNumber, "10", "11", -1},
		{api.ByNumber, "19", "21", -1},
		{api.ByNumber, "0", "00", 0},
		{api.ByNumber, "0", "1", -1},
		{api.ByNumber, "007", "7", 0},
		{api.ByNumber, "007", "10", -1},
		{api.ByNumber, "0010", "9", 1},
		{api.ByNumber, "07", "3x", 1},
		{api.ByNumber, "7x", "007y9", 0},
		{api.ByNumber, "1.9", "1.1", 0},
		{api.ByNumber, "1 2", "1", 0},
		{api.ByNumber, "1e9", "2", -1},
		{api.ByNumber, "0x10", "0", 0},
		{api.ByNumber, "1\xff", "1", 0},
		{api.ByNumber, "1ä", "1", 0},
		{api.ByNumber, "1/", "1:", 0},
		{api.ByNumber, "18446744073709551616", "0", 1},
		{api.ByNumber, "18446744073709551616", "18446744073709551617", -1},
		{api.ByNumber, "9223372036854775808", "9223372036854775807", 1},
		{api.ByNumber, veryLong + "8", veryLong + "9", -1},
		{api.ByNumber, "000" + veryLong, veryLong + "z", 0},
		{api.ByNumber, "1" + strings.Repeat("0", 60), veryLong, 1},
		{api.ByNumber, strings.Repeat("0", 60) + "1", "2", -1},
		{api.ByNumber, "", "", 0},
		{api.ByNumber, "x", "y", 0},
		{api.ByNumber, "x", "", 0},
		{api.ByNumber, "-1", " 1", 0},
		{api.ByNumber, "x", veryLong, 1},
		{api.ByNumber, "", "0", 1},
		{api.ByNumber, "x", "07", 1},
		{api.ByNumber, "x", "3x", 1},
		{api.ByNumber, "-1", "5", 1},
		{api.ByNumber, "+1", "5", 1},
		{api.ByNumber, " 1", "5", 1},
		{api.ByNumber, "x1", "5", 1},
		{api.ByNumber, "/", "0", 1},
		{api.ByNumber, ":", "9", 1},
		{api.ByNumber, "\u0661", "5", 1},
		{api.ByNumber, "\uff11", "5", 1},
		{0, "a", "A", 1},
		{0, "a", "a", 0},
		{4, "a", "B", 1},
		{-1, "10", "9", -1},
		{257, "a", "A", 1},
		{259, "10", "9", -1},
		{math.MaxInt, "ä", "Ä", 1},
		{math.MinInt, "", "a", -1},
	} {
		if got := fold.Order(c.comp, c.a, c.b); got != c.want {
			t.Errorf("Order(%d, %q, %q) = %d, want %d", c.comp, c.a, c.b, got, c.want)
		}
		if got := fold.Order(c.comp, c.b, c.a); got != -c.want {
			t.Errorf("Order(%d, %q, %q) = %d, want %d", c.comp, c.b, c.a, got, -c.want)
		}
	}
}

// ordered lists strings that lie close to each other under one collation or another.
func ordered() []string {
	list := samples.Words("0a9", 3)
	list = append(list, samples.Words("A\xc3\x84\xa4", 2)...)
	return append(list, "Ä", "ä", "äa", "ÄA", "Äb", "\xff", "€", "😀", "_", "00a1", "10", "100", "0100", "18446744073709551616",
		veryLong, "0"+veryLong+"Ä", veryLong+"0", " 1", "-1", "\x00", "Z", "z")
}

// P5.2: any two strings are ordered as the chapter defines it.
func TestOrderOfPairs(t *testing.T) {
	for _, comp := range collations {
		for _, a := range ordered() {
			for _, b := range ordered() {
				if got, want := fold.Order(comp, a, b), orderOf(comp, a, b); got != want {
					t.Fatalf("Order(%d, %q, %q) = %d, want %d", comp, a, b, got, want)
				}
			}
		}
	}
}

// P5.6: Order is a total preorder: every string is equal to itself, any two are ordered one way, and no order is lost from one to the next.
func TestOrderIsTotalPreorder(t *testing.T) {
	list := ordered()
	for _, comp := range collations {
		table := make([][]int, len(list))
		for i, a := range list {
			for _, b := range list {
				table[i] = append(table[i], fold.Order(comp, a, b))
			}
		}
		for i := range list {
			for j := range list {
				if table[i][i] != 0 || table[i][j] != -table[j][i] {
					t.Fatalf("under %d, %q and %q are ordered %d and %d", comp, list[i], list[j], table[i][j], table[j][i])
				}
				for k := range list {
					if table[i][j] <= 0 && table[j][k] <= 0 && table[i][k] != min(table[i][j], table[j][k]) {
						t.Fatalf("under %d, the order of %q, %q and %q is broken", comp, list[i], list[j], list[k])
					}
				}
			}
		}
	}
}

// P5.2, P1: Order under each collation of strings of all kinds.
func TestOrderOfAnyStrings(t *testing.T) {
	last := ""
	for i, s := range samples.Texts() {
		comp := collations[i%len(collations)]
		if got, want := fold.Order(comp, s, last), orderOf(comp, s, last); got != want {
			t.Errorf("Order(%d, %.40q, %.40q) = %d, want %d", comp, s, last, got, want)
		}
		last = s
	}
}

// P5.4: Holds with each match type, and with others.
func TestHolds(t *testing.T) {
	for _, c := range []struct {
		comp, match int
		s, key      string
		want        bool
	}{
		{api.ByCase, api.MIs, "Ab", "aB", true},
		{api.ByCase, api.MIs, "Ä", "ä", true},
		{api.ByCase, api.MIs, "ab", "abc", false},
		{api.ByCase, api.MIs, "a*", "abc", false},
		{api.ByOctet, api.MIs, "Ab", "Ab", true},
		{api.ByOctet, api.MIs, "Ab", "aB", false},
		{api.ByNumber, api.MIs, "7a", "07", true},
		{api.ByNumber, api.MIs, "x", "y", true},
		{api.ByNumber, api.MIs, "x", "0", false},
		{9, api.MIs, "Ab", "Ab", true},
		{9, api.MIs, "Ab", "aB", false},
		{api.ByCase, api.MContains, "xAby", "aB", true},
		{api.ByCase, api.MContains, "aB", "xAby", false},
		{api.ByCase, api.MContains, "aB", "Ab", true},
		{api.ByCase, api.MContains, "", "", true},
		{api.ByCase, api.MContains, "a", "", true},
		{api.ByCase, api.MContains, "", "a", false},
		{api.ByCase, api.MContains, "axb", "ab", false},
		{api.ByCase, api.MContains, "grÜn", "ü", true},
		{api.ByCase, api.MContains, "abc", "*", false},
		{api.ByCase, api.MContains, "a*c", "*", true},
		{api.ByCase, api.MContains, "Ä", "\xc3", true},
		{api.ByCase, api.MContains, "Ä", "\xa4", true},
		{api.ByCase, api.MContains, "Ä", "\x84", false},
		{api.ByOctet, api.MContains, "Ä", "\x84", true},
		{api.ByOctet, api.MContains, "xAby", "Ab", true},
		{api.ByOctet, api.MContains, "xAby", "aB", false},
		{api.ByNumber, api.MContains, "12", "1", false},
		{api.ByNumber, api.MContains, "12", "12", false},
		{api.ByNumber, api.MContains, "", "", false},
		{9, api.MContains, "xAby", "Ab", true},
		{9, api.MContains, "xAby", "aB", false},
		{api.ByCase, api.MMatches, "Abc", "a?C", true},
		{api.ByCase, api.MMatches, "a?C", "Abc", false},
		{api.ByCase, api.MMatches, "abc", "b", false},
		{api.ByOctet, api.MMatches, "abc", "a*", true},
		{api.ByOctet, api.MMatches, "Abc", "a*", false},
		{api.ByNumber, api.MMatches, "1", "1", false},
		{api.ByNumber, api.MMatches, "1", "*", false},
		{9, api.MMatches, "Abc", "A*", true},
		{9, api.MMatches, "Abc", "a*", false},
		{api.ByCase, api.MAbove, "b", "A", true},
		{api.ByCase, api.MAbove, "B", "b", false},
		{api.ByCase, api.MAbove, "A", "b", false},
		{api.ByOctet, api.MAbove, "a", "B", true},
		{api.ByNumber, api.MAbove, "12", "9", true},
		{api.ByNumber, api.MAbove, "9", "12", false},
		{api.ByNumber, api.MAbove, "x", veryLong, true},
		{api.ByNumber, api.MAbove, "07", "7", false},
		{9, api.MAbove, "a", "B", true},
		{api.ByCase, api.MBelow, "A", "b", true},
		{api.ByCase, api.MBelow, "b", "A", false},
		{api.ByCase, api.MBelow, "B", "b", false},
		{api.ByOctet, api.MBelow, "B", "a", true},
		{api.ByNumber, api.MBelow, "9", "12", true},
		{api.ByNumber, api.MBelow, "12", "9", false},
		{api.ByNumber, api.MBelow, veryLong, "x", true},
		{api.ByNumber, api.MBelow, "7", "07", false},
		{9, api.MBelow, "B", "a", true},
	} {
		if got := fold.Holds(c.comp, c.match, c.s, c.key); got != c.want {
			t.Errorf("Holds(%d, %d, %q, %q) = %v", c.comp, c.match, c.s, c.key, got)
		}
	}
}

// P5.4: Holds with an integer that is no match type holds for nothing.
func TestHoldsWithOtherMatches(t *testing.T) {
	for _, comp := range collations {
		for _, match := range []int{0, -1, api.MCount, 7, 257, 261, math.MinInt, math.MaxInt} {
			for _, c := range [][2]string{{"a", "a"}, {"", ""}, {"1", "1"}, {"2", "1"}, {"1", "2"}, {"ab", "a"}, {"a", "*"}} {
				if fold.Holds(comp, match, c[0], c[1]) {
					t.Errorf("Holds(%d, %d, %q, %q) = true", comp, match, c[0], c[1])
				}
			}
		}
	}
}

// holdsOf tells whether s stands to key as match says, as the chapter defines it.
func holdsOf(comp, match int, s, key string) bool {
	text, part := s, key
	if comp == api.ByCase {
		text, part = foldedOf(s), foldedOf(key)
	}
	switch match {
	case api.MIs:
		return orderOf(comp, s, key) == 0
	case api.MContains:
		return comp != api.ByNumber && strings.Contains(text, part)
	case api.MMatches:
		_, ok := globOf(comp, key, s)
		return ok
	case api.MAbove:
		return orderOf(comp, s, key) == 1
	case api.MBelow:
		return orderOf(comp, s, key) == -1
	}
	return false
}

// P5.4: Holds for any two strings is what the chapter defines.
func TestHoldsOfPairs(t *testing.T) {
	list := append(samples.Words("aA1*", 2), samples.Words("\xc3\x84\xa4?\\", 2)...)
	for _, comp := range collations {
		for match := range 8 {
			for _, s := range list {
				for _, key := range list {
					if got, want := fold.Holds(comp, match, s, key), holdsOf(comp, match, s, key); got != want {
						t.Fatalf("Holds(%d, %d, %q, %q) = %v", comp, match, s, key, got)
					}
				}
			}
		}
	}
}
