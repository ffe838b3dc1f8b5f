package text

import "sync"

// The classes of runes.
const (
	classBlank = iota
	classWord
	classOther
)

// What kindOf tells of a byte beside the class of a rune that begins with it.
const (
	stray = 4 // no text has it
	ends  = 8 // it ends a row
)

// kindOf tells a byte's kind.
func kindOf(b int) uint8 {
	switch {
	case b == ' ' || b == '\t':
		return classBlank
	case b >= 'a' && b <= 'z' || b >= 'A' && b <= 'Z' || b >= '0' && b <= '9' || b == '_':
		return classWord
	case b == '\n':
		return classOther | ends
	case b == 0:
		return classOther | stray
	case b == 0xc0 || b == 0xc1 || b >= 0xf5:
		return classWord | stray
	case b >= 0x80:
		return classWord
	}
	return classOther
}

// Class tells the class of a rune.
func Class(r int) int {
	switch {
	case r < 0:
		return classOther
	case r >= 128:
		return classWord
	}
	return int(kindOf(r) &^ (stray | ends))
}

// hasStray tells whether a byte stands there that no text has.
func hasStray(s string) bool {
	for i := range len(s) {
		if kindOf(int(s[i]))&stray != 0 {
			return true
		}
	}
	return false
}

// kinds has the kind of each byte. It is made once, when Join asks first; all
// other calls go by kindOf itself, so that none of them stands upon a variable.
var (
	kindsOnce sync.Once
	kinds     [256]uint8
)

func makeKinds() {
	for b := range kinds {
		kinds[b] = kindOf(b)
	}
}

// isRow tells whether all bytes are of kinds that a row has.
func isRow(s string) bool {
	kindsOnce.Do(makeKinds)
	for i := range len(s) {
		if kinds[s[i]]&(stray|ends) != 0 {
			return false
		}
	}
	return true
}
