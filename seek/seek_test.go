package seek

import (
	"strings"
	"testing"

	"quill/api"
)

// P11.1
func TestFind(t *testing.T) {
	s := "b\näbcb\nb"
	for _, c := range []struct {
		at, key, r, count int
		to                int // -1: ErrMove
	}{
		{2, 'f', 'b', 1, 3}, {2, 'f', 'b', 2, 5}, {2, 'f', 'b', 3, -1}, {3, 'f', 'b', 1, 5}, {5, 'f', 'b', 1, -1}, {6, 'f', 'b', 1, -1}, {2, 'f', 'ä', 1, -1},
		{5, 'F', 'b', 1, 3}, {6, 'F', 'b', 1, 5}, {6, 'F', 'b', 2, 3}, {6, 'F', 'b', 3, -1}, {5, 'F', 'ä', 1, 2}, {2, 'F', 'b', 1, -1},
		{2, 't', 'b', 1, 2}, {2, 't', 'b', 2, 4}, {2, 't', 'b', 3, -1}, {4, 't', 'b', 1, 4},
		{6, 'T', 'b', 1, 6}, {6, 'T', 'b', 2, 4}, {4, 'T', 'b', 1, 4}, {4, 'T', 'b', 2, -1},
		{2, 'f', '\n', 1, -1}, {6, 'F', '\n', 1, -1}, {2, 'f', 1<<32 + 'b', 1, -1}, {2, 'f', -1, 1, -1}, {2, 'f', 'b', api.MaxCount, -1},
	} {
		x, e := Find(s, c.at, c.key, c.r, c.count)
		if c.to < 0 && (x != 0 || e != api.ErrMove) || c.to >= 0 && (x != c.to || e != api.OK) {
			t.Errorf("%c of %c at %d, %d times: %d %v", c.key, rune(c.r), c.at, c.count, x, e)
		}
	}
	for i, e := range []api.Errno{
		errno(Find("\xff", 0, 'f', 'b', 1)), errno(Find("\x00", 0, 'f', 'b', 1)), errno(Find(strings.Repeat("x", api.MaxBytes+1), 0, 'f', 'b', 1)), errno(Find(s, -1, 'f', 'b', 1)), errno(Find(s, 9, 'f', 'b', 1)), errno(Find(s, 2, 'x', 'b', 1)), errno(Find(s, 2, ';', 'b', 1)), errno(Find(s, 2, 'f', 'b', 0)), errno(Find(s, 2, 'f', 'b', api.MaxCount+1)), errno(Find(s, 2, 'f', 'b', -1)),
	} {
		if e != api.ErrForm {
			t.Error(i, e)
		}
	}
	if x, e := Find("abcb", 0, 'f', 'b', 2); x != 3 || e != api.OK {
		t.Error(x, e)
	}
}

func errno(x int, e api.Errno) api.Errno {
	if x != 0 {
		return -1
	}
	return e
}

// P11.1, P11.2
func TestTurned(t *testing.T) {
	for _, p := range []string{"fF", "Ff", "tT", "Tt"} {
		x, e := Turned(int(p[0]))
		y, f := Turned(x)
		if x != int(p[1]) || y != int(p[0]) || e != api.OK || f != api.OK {
			t.Error(p, x, y, e, f)
		}
	}
	for _, key := range []int{0, -1, 'g', ';', 1<<32 + 'f'} {
		if x, e := Turned(key); x != 0 || e != api.ErrForm {
			t.Error(key, x, e)
		}
	}
}
