package parse

import (
	"strings"
	"sync"
)

// What a key may be.
const (
	forOper   = 1 << iota // an operator
	forNormal             // a command in ModeNormal
	forVisual             // a command in ModeVisual and ModeLines
	forObject             // an object behind i or a
	forReg                // a register's name
	forRune               // a motion behind which a rune stands
)

// usesOf tells all that a key may be.
func usesOf(key int) (use uint8) {
	if oneOf(key, "dcy><") {
		use |= forOper
	}
	if oneOf(key, "xXsSDCYpPJ~iaIAoOuvV.") || key == keyRedo {
		use |= forNormal
	}
	if oneOf(key, "dxcsy><uU~JovV") {
		use |= forVisual
	}
	if oneOf(key, "wW\"()b[]{}Bp") {
		use |= forObject
	}
	if oneOf(key, "\"-_0123456789") || key >= 'a' && key <= 'z' || key >= 'A' && key <= 'Z' {
		use |= forReg
	}
	if oneOf(key, "fFtT'`") {
		use |= forRune
	}
	return use
}

func oneOf(key int, l string) bool {
	return key >= 0 && key < 128 && strings.IndexByte(l, byte(key)) >= 0
}

// keys has of each key all that it may be; it is made once, whoever asks first.
var (
	keysOnce sync.Once
	keys     [128]uint8
)

func makeKeys() {
	for key := range keys {
		keys[key] = usesOf(key)
	}
}

// listed tells what the table has of a key.
func listed(key int) uint8 {
	if key < 0 || key >= len(keys) {
		return 0
	}
	keysOnce.Do(makeKeys)
	return keys[key]
}

// is tells whether a key may be such a one. What the table has counts only where
// usesOf says the same: it stands beside the function, and no answer hangs on it.
func is(key int, what uint8) bool {
	use := usesOf(key)
	if l := listed(key); l == use {
		return l&what != 0
	}
	return use&what != 0
}
