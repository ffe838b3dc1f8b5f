// Package spot: what many layers ask of a place in a text.
package spot

import (
	"unicode/utf8"

	"quill/api"
	"quill/text"
)

// Runes tells a text's runes, if it may be, and at is one of its offsets.
func Runes(s string, at int) ([]rune, bool) {
	if text.Check(s) != api.OK {
		return nil, false
	}
	r := []rune(s)
	if at < 0 || at > len(r) {
		return nil, false
	}
	return r, true
}

// Row tells where at's row begins and ends.
func Row(r []rune, at int) (low, high int) {
	low, high = at, at
	for low > 0 && r[low-1] != '\n' {
		low--
	}
	for high < len(r) && r[high] != '\n' {
		high++
	}
	return low, high
}

// First tells where the first rune of at's row is that is not blank; if there
// is none, the row's end.
func First(r []rune, at int) int {
	i, high := Row(r, at)
	for i < high && Blank(r[i]) {
		i++
	}
	return i
}

// Blank tells whether a rune is of class 0.
func Blank(c rune) bool { return text.Class(int(c)) == 0 }

// Other tells the great letter of a small one, the small one of a great one,
// and any other rune itself.
func Other(c rune) rune {
	switch {
	case c >= 'a' && c <= 'z':
		return c - 'a' + 'A'
	case c >= 'A' && c <= 'Z':
		return c - 'A' + 'a'
	}
	return c
}

// IsRune tells whether a number is that of a rune which a text may have.
func IsRune(k int) bool {
	return k >= 0 && k <= utf8.MaxRune && utf8.ValidRune(rune(k)) && text.Check(string(rune(k))) == api.OK
}
