package move

import (
	"sync"

	"quill/api"
)

// What a motion goes by.
const (
	byNone = iota // no motion
	byLines
	byWords
	bySeek
	byAgain
	byParas
	byPairs
	byMark
)

// keys has of each key what its motion goes by; it is made once.
var (
	keysOnce sync.Once
	keys     [128]uint8
)

func makeKeys() {
	set("hljk0^$G+-_", byLines)
	set("wbeWBE", byWords)
	set("fFtT", bySeek)
	set(";,", byAgain)
	set("{}", byParas)
	set("%", byPairs)
	set("'`", byMark)
}

func set(l string, by uint8) {
	for i := range len(l) {
		keys[l[i]] = by
	}
}

func kindOf(key int) uint8 {
	if key == api.OpG+'g' {
		return byLines
	}
	if key < 0 || key >= len(keys) {
		return byNone
	}
	keysOnce.Do(makeKeys)
	return keys[key]
}
