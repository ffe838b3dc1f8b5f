package text

import "sync"

// The classes of runes.
const (
	classBlank = iota
	classWord
	classOther
)

// stray is set of bytes that no text has.
const stray = 4

// kinds has, of each byte, the class of a rune that begins with it; it is made
// once, as every motion asks for it rune by rune.
var (
	kindsOnce sync.Once
	kinds     [256]uint8
)

func makeKinds() {
	for b := range kinds {
		kinds[b] = kindOf(b)
	}
}

func kindOf(b int) uint8 {
	switch {
	case b == ' ' || b == '\t':
		return classBlank
	case b >= 'a' && b <= 'z' || b >= 'A' && b <= 'Z' || b >= '0' && b <= '9' || b == '_':
		return classWord
	case b == 0:
		return classOther | stray
	case b == 0xc0 || b == 0xc1 || b >= 0xf5:
		return classWord | stray
	case b >= 0x80:
		return classWord
	}
	return classOther
}

// Class tells the class of a rune.
func Class(r int) int {
	switch {
	case r < 0:
		return classOther
	case r >= 128:
		return classWord
	}
	kindsOnce.Do(makeKinds)
	return int(kinds[r] &^ stray)
}

// hasStray tells whether a byte stands there that no text has.
func hasStray(s string) bool {
	kindsOnce.Do(makeKinds)
	for i := range len(s) {
		if kinds[s[i]]&stray != 0 {
			return true
		}
	}
	return false
}
