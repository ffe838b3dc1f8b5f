package move

import (
	"sync"

	"quill/api"
)

// What a motion goes by.
const (
	byNone = iota // no motion
	byLines
	byWords
	bySeek
	byAgain
	byParas
	byPairs
	byMark
)

// kindOf tells what a key's motion goes by.
func kindOf(key int) uint8 {
	switch key {
	case 'h', 'l', 'j', 'k', '0', '^', '$', 'G', '+', '-', '_', api.OpG + 'g':
		return byLines
	case 'w', 'b', 'e', 'W', 'B', 'E':
		return byWords
	case 'f', 'F', 't', 'T':
		return bySeek
	case ';', ',':
		return byAgain
	case '{', '}':
		return byParas
	case '%':
		return byPairs
	case '\'', '`':
		return byMark
	}
	return byNone
}

// keys has of each key what its motion goes by. It is made once, when Asks asks
// first; all other calls go by kindOf itself, so that none of them stands upon a
// variable.
var (
	keysOnce sync.Once
	keys     [128]uint8
)

func makeKeys() {
	for key := range keys {
		keys[key] = kindOf(key)
	}
}

// listed tells what the table has of a key.
func listed(key int) uint8 {
	if key < 0 || key >= len(keys) {
		return byNone
	}
	keysOnce.Do(makeKeys)
	return keys[key]
}
