package fold

import (
	"strings"

	"pouch/api"
)

// anyUnit stands for a `?` in a piece of a pattern: no unit is empty.
const anyUnit = ""

// Glob reports whether s matches the pattern under the collation comp, and returns the part of s that each wildcard matched.
func Glob(comp int, pattern, s string) ([]string, bool) {
	if comp == api.ByNumber {
		return nil, false
	}
	// Folding leaves every unit as long as it was, so these two lists run side by side.
	units, keys := Units(s), Units(comparisonKey(comp, s))
	pieces := splitPattern(comparisonKey(comp, pattern))
	var parts []string
	end := 0
	for i, piece := range pieces {
		latest := len(keys) - len(piece)
		low, high := end, latest
		// The first piece stands at the start of s, the last one at its end.
		if i == 0 {
			high = min(0, latest)
		}
		if i == len(pieces)-1 {
			low = max(end, latest)
		}
		// The first place is the right one for each piece between: the `*` before it is to match as little as it can, and the one behind it takes up whatever is left.
		at, found := place(piece, keys, low, high)
		if !found {
			return nil, false
		}
		if i > 0 {
			parts = append(parts, strings.Join(units[end:at], ""))
		}
		end = at + len(piece)
		parts = appendAny(parts, piece, units[at:end])
	}
	return parts, true
}

// splitPattern splits a pattern at each `*` into pieces, each the list of the units to be matched one by one.
func splitPattern(pattern string) [][]string {
	units := Units(pattern)
	pieces := [][]string{nil}
	for i := 0; i < len(units); i++ {
		unit := units[i]
		switch {
		case unit == "*":
			pieces = append(pieces, nil)
			continue
		case unit == "?":
			unit = anyUnit
		case unit == `\` && i+1 < len(units):
			i++
			unit = units[i]
		}
		last := len(pieces) - 1
		pieces[last] = append(pieces[last], unit)
	}
	return pieces
}

// place finds the first place in keys, from low to high, where the piece matches.
func place(piece, keys []string, low, high int) (int, bool) {
	for at := low; at <= high; at++ {
		if fits(piece, keys[at:]) {
			return at, true
		}
	}
	return 0, false
}

// fits reports whether the keys, which are no fewer than the units of the piece, begin with what the piece matches.
func fits(piece, keys []string) bool {
	for i, unit := range piece {
		if unit != anyUnit && unit != keys[i] {
			return false
		}
	}
	return true
}

// appendAny appends to parts the units that stand where the piece has a `?`.
func appendAny(parts, piece, units []string) []string {
	for i, unit := range piece {
		if unit == anyUnit {
			parts = append(parts, units[i])
		}
	}
	return parts
}
