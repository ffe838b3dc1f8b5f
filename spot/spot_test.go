package spot

import (
	"strings"
	"testing"

	"quill/api"
)

func TestRunes(t *testing.T) {
	for at := range 4 {
		if r, ok := Runes("äb\n", at); string(r) != "äb\n" || !ok {
			t.Error(at, r, ok)
		}
	}
	for _, at := range []int{-1, 4, 1 << 62} {
		if r, ok := Runes("äb\n", at); r != nil || ok {
			t.Error(at, r, ok)
		}
	}
	for _, s := range []string{"\xff", "\x00", strings.Repeat("x", api.MaxBytes+1)} {
		if r, ok := Runes(s, 0); r != nil || ok {
			t.Error(r, ok)
		}
	}
}

func TestRowAndFirst(t *testing.T) {
	r := []rune("ab\n\n \tc\n  ")
	for at, want := range [][3]int{{0, 2, 0}, {0, 2, 0}, {0, 2, 0}, {3, 3, 3}, {4, 7, 6}, {4, 7, 6}, {4, 7, 6}, {4, 7, 6}, {8, 10, 10}, {8, 10, 10}, {8, 10, 10}} {
		if low, high := Row(r, at); low != want[0] || high != want[1] || First(r, at) != want[2] {
			t.Error(at, low, high, First(r, at))
		}
	}
}

func TestOther(t *testing.T) {
	for c, want := range map[rune]rune{'a': 'A', 'z': 'Z', 'A': 'a', 'Z': 'z', '@': '@', '[': '[', '`': '`', '{': '{', 'ä': 'ä', '1': '1'} {
		if Other(c) != want {
			t.Error(c, Other(c))
		}
	}
}

func TestIsRune(t *testing.T) {
	for k, want := range map[int]bool{1: true, 10: true, 127: true, 0xd7ff: true, 0xe000: true, 0xfffd: true, 0x10ffff: true, 0: false, -1: false, 0xd800: false, 0xdfff: false, 0x110000: false, 1<<32 + 'a': false, -1 << 63: false} {
		if IsRune(k) != want {
			t.Error(k, !want)
		}
	}
}
