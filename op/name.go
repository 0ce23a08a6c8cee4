package op

import (
	"unicode/utf8"

	"bulla/api"
)

// Name tells whether a text is a name.
func Name(s string) bool {
	return Runes(s) > 0
}

// Runes is how many runes a name has; 0 of a text that is none.
func Runes(s string) int {
	n := 0
count:
	for _, r := range s {
		switch {
		case barred(r) || n == api.MaxName:
			n = 0
			break count
		default:
			n++
		}
	}
	return n
}

// barred tells whether a rune stands in no name. RuneError is itself one, and is told for each byte that is no rune's form.
func barred(r rune) bool {
	return r < 33 || r == '/' || r >= 127 && r <= 159 || r == utf8.RuneError
}
