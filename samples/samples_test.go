package samples_test

import (
	"slices"
	"testing"

	"pouch/samples"
)

func TestAllBytes(t *testing.T) {
	all := samples.AllBytes()
	for b := range len(all) {
		if int(all[b]) != b {
			t.Errorf("byte %d is %d", b, all[b])
		}
	}
	if len(all) != 256 {
		t.Errorf("%d bytes", len(all))
	}
}

func TestWords(t *testing.T) {
	for _, c := range []struct {
		alphabet string
		longest  int
		want     []string
	}{
		{"ab", -1, []string{""}},
		{"ab", 0, []string{""}},
		{"", 3, []string{""}},
		{"ab", 1, []string{"", "a", "b"}},
		{"ab", 2, []string{"", "a", "b", "aa", "ab", "ba", "bb"}},
		{"\xff", 3, []string{"", "\xff", "\xff\xff", "\xff\xff\xff"}},
	} {
		if got := samples.Words(c.alphabet, c.longest); !slices.Equal(got, c.want) {
			t.Errorf("Words(%q, %d) = %q, want %q", c.alphabet, c.longest, got, c.want)
		}
	}
}

func TestNoise(t *testing.T) {
	for _, length := range []int{-1, 0, 1, 2, 63, 5000} {
		if got := samples.Noise(length, 1); len(got) != max(0, length) || got != samples.Noise(length, 1) {
			t.Errorf("Noise(%d, 1) = %q", length, got)
		}
	}
	seen := map[byte]bool{}
	noise := samples.Noise(5000, 1)
	for i := range len(noise) {
		seen[noise[i]] = true
	}
	if len(seen) != 256 {
		t.Errorf("only %d bytes occur", len(seen))
	}
	if noise == samples.Noise(5000, 2) || noise[:2500] == noise[2500:] {
		t.Error("the noise repeats")
	}
}
