package parse

import "sync"

// What a key may be.
const (
	forOper   = 1 << iota // an operator
	forNormal             // a command in ModeNormal
	forVisual             // a command in ModeVisual and ModeLines
	forObject             // an object behind i or a
	forReg                // a register's name
	forRune               // a motion behind which a rune stands
)

// keys has of each key what it may be; it is made once, whoever asks first.
var (
	keysOnce sync.Once
	keys     [128]uint8
)

func makeKeys() {
	add("dcy><", forOper)
	add("xXsSDCYpPJ~iaIAoOuvV.", forNormal)
	keys[keyRedo] |= forNormal
	add("dxcsy><uU~JovV", forVisual)
	add("wW\"()b[]{}Bp", forObject)
	add("\"-_0123456789", forReg)
	add("fFtT'`", forRune)
	for i := range 'z' - 'a' + 1 {
		keys['a'+i] |= forReg
		keys['A'+i] |= forReg
	}
}

func add(l string, what uint8) {
	for i := range len(l) {
		keys[l[i]] |= what
	}
}

func is(key int, what uint8) bool {
	keysOnce.Do(makeKeys)
	return key >= 0 && key < len(keys) && keys[key]&what != 0
}
