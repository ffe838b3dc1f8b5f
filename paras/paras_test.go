package paras

import (
	"strings"
	"testing"

	"quill/api"
)

// P13.1
func TestMove(t *testing.T) {
	s := "\n\na\nä\n\n\nb\n \n\n" // begins: 0 1 2 4 6 7 8 10 12 13
	for _, c := range []struct {
		at, key, count int
		to             int // -1: ErrMove
	}{
		{0, '}', 1, 6}, {1, '}', 1, 6}, {3, '}', 1, 6}, {5, '}', 1, 6}, {6, '}', 1, 12}, {7, '}', 1, 12}, {11, '}', 1, 12}, {12, '}', 1, 13}, {13, '}', 1, -1}, {0, '}', 2, 12}, {0, '}', 3, 13}, {0, '}', 999, 13},
		{13, '{', 1, 7}, {12, '{', 1, 7}, {9, '{', 1, 7}, {8, '{', 1, 7}, {7, '{', 1, 1}, {6, '{', 1, 1}, {3, '{', 1, 1}, {2, '{', 1, 1}, {1, '{', 1, 0}, {0, '{', 1, -1}, {13, '{', 2, 1}, {13, '{', 3, 0}, {13, '{', 999, 0},
	} {
		x, e := Move(s, c.at, c.key, c.count)
		if c.to < 0 && (x != 0 || e != api.ErrMove) || c.to >= 0 && (x != c.to || e != api.OK) {
			t.Errorf("%c at %d, %d times: %d %v", c.key, c.at, c.count, x, e)
		}
	}
	if x, e := Move("", 0, '}', 1); x != 0 || e != api.ErrMove {
		t.Error(x, e)
	}
	if x, e := Move("a\n\nb", 0, '}', 1); x != 2 || e != api.OK {
		t.Error(x, e)
	}
	for i, e := range []api.Errno{
		errno(Move("\xff", 0, '}', 1)), errno(Move("\x00", 0, '}', 1)), errno(Move(strings.Repeat("x", api.MaxBytes+1), 0, '}', 1)), errno(Move("ab", -1, '}', 1)), errno(Move("ab", 3, '}', 1)), errno(Move("ab", 0, 'x', 1)), errno(Move("ab", 0, '}', 0)), errno(Move("ab", 0, '}', -1)), errno(Move("ab", 0, '{', api.MaxCount+1)),
	} {
		if e != api.ErrForm {
			t.Error(i, e)
		}
	}
}

func errno(x int, e api.Errno) api.Errno {
	if x != 0 {
		return -1
	}
	return e
}

// P13.2
func TestReaches(t *testing.T) {
	for _, s := range []string{"a", "ab\n\nc\n\n\nd", "\n\n\n", "x\n\n"} {
		n := len(s)
		for at := range n {
			if x, e := Move(s, at, '}', 999); x != n || e != api.OK {
				t.Errorf("%q at %d: %d %v", s, at, x, e)
			}
		}
		for at := 1; at <= n; at++ {
			if x, e := Move(s, at, '{', 999); x != 0 || e != api.OK {
				t.Errorf("%q at %d: %d %v", s, at, x, e)
			}
		}
	}
}
