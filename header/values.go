package header

import (
	"iter"
	"strings"

	"pouch/api"
)

// Get returns the value of the first field with a name, and whether there is one.
func Get(l []api.Field, name string) (string, bool) {
	for value := range values(l, name) {
		return value, true
	}
	return "", false
}

// All returns the values of all fields with a name.
func All(l []api.Field, name string) []string {
	var all []string
	for value := range values(l, name) {
		all = append(all, value)
	}
	return all
}

// values enumerates the values of the fields with a name that are not Bad: unfolded, and without blanks at both ends.
func values(l []api.Field, name string) iter.Seq[string] {
	return func(yield func(string) bool) {
		for _, field := range l {
			if field.Bad || !sameName(field.Name, name) {
				continue
			}
			if !yield(strings.Trim(Unfold(field.Value), blanks)) {
				return
			}
		}
	}
}

// sameName reports whether a and b are equal without regard to ASCII case. The library's comparisons would hold the case of other letters equal, too.
func sameName(a, b string) bool {
	if len(a) != len(b) {
		return false
	}
	for i := range len(a) {
		if lower(a[i]) != lower(b[i]) {
			return false
		}
	}
	return true
}

func lower(b byte) byte {
	if 'A' <= b && b <= 'Z' {
		return b + 'a' - 'A'
	}
	return b
}
