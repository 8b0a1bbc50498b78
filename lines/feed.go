package lines

import "strings"

// greatestLimit is the greatest line limit of a Feed.
const greatestLimit = 1 << 20

// A Feed extracts lines from input that arrives in chunks. It holds what has arrived of the line that no LF has completed yet, but at most its first limit bytes.
type Feed struct {
	limit int
	begun []byte
}

// New returns an empty Feed with a line limit, which is clamped to the range 1 to 2^20.
func New(most int) *Feed {
	return &Feed{limit: min(max(most, 1), greatestLimit)}
}

// Push appends a chunk to the input and returns the lines that it completes.
func (f *Feed) Push(chunk string) []string {
	var completed []string
	for piece := range strings.Lines(chunk) {
		f.add(piece)
		if strings.HasSuffix(piece, lf) {
			completed = append(completed, f.Rest())
			// Emptied only in its length, it would go on holding the memory of the longest line.
			f.begun = nil
		}
	}
	return completed
}

// Rest returns the incomplete last line.
func (f *Feed) Rest() string { return string(f.begun) }

// add appends as much of a piece to the begun line as the limit leaves room for.
func (f *Feed) add(piece string) {
	room := f.limit - len(f.begun)
	f.begun = append(f.begun, piece[:min(room, len(piece))]...)
}
