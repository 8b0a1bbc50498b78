// Package samples makes inputs for the tests of the layers.
package samples

// AllBytes returns a string of every byte once, in order.
func AllBytes() string {
	all := make([]byte, 256)
	for b := range all {
		all[b] = byte(b)
	}
	return string(all)
}

// Words lists all strings of at most longest bytes of the alphabet, the shorter ones first.
func Words(alphabet string, longest int) []string {
	words := []string{""}
	from := 0
	for range longest {
		to := len(words)
		for _, word := range words[from:to] {
			for i := range len(alphabet) {
				words = append(words, word+alphabet[i:i+1])
			}
		}
		from = to
	}
	return words
}

// Noise returns a string of the given length without a pattern, always the same one for a length and a seed.
func Noise(length int, seed uint64) string {
	noise := make([]byte, 0, max(0, length))
	state := seed
	for len(noise) < length {
		state = state*6364136223846793005 + 1442695040888963407
		// The low bits of such a sequence repeat soon; the high ones do not.
		noise = append(noise, byte(state>>56))
	}
	return string(noise)
}
