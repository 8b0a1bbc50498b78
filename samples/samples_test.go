package samples_test

import (
	"slices"
	"testing"

	"pouch/samples"
)

func TestWords(t *testing.T) {
	for _, c := range []struct {
		alphabet string
		longest  int
		want     []string
	}{
		{"ab", -1, []string{""}},
		{"ab", 0, []string{""}},
		{"", 3, []string{""}},
		{"ab", 1, []string{"", "a", "b"}},
		{"ab", 2, []string{"", "a", "b", "aa", "ab", "ba", "bb"}},
		{"\xff", 3, []string{"", "\xff", "\xff\xff", "\xff\xff\xff"}},
	} {
		if got := samples.Words(c.alphabet, c.longest); !slices.Equal(got, c.want) {
			t.Errorf("Words(%q, %d) = %q, want %q", c.alphabet, c.longest, got, c.want)
		}
	}
}
