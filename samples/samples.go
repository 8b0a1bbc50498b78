// Package samples makes inputs for the tests of the layers.
package samples

// Words lists all strings of at most longest bytes of the alphabet, the shorter ones first.
func Words(alphabet string, longest int) []string {
	words := []string{""}
	from := 0
	for range longest {
		to := len(words)
		for _, word := range words[from:to] {
			for i := range len(alphabet) {
				words = append(words, word+alphabet[i:i+1])
			}
		}
		from = to
	}
	return words
}
