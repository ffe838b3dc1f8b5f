package lines

import (
	"strings"
	"testing"

	"quill/api"
)

const gg = api.OpG + 'g'

func bad() []string {
	return []string{"\xff", "\x00", strings.Repeat("x", api.MaxBytes+1)}
}

// P12.1
func TestFirst(t *testing.T) {
	s := " \täb\n\n  \nx"
	for row, want := range []int{2, 5, 8, 9} {
		if x, e := First(s, row); x != want || e != api.OK {
			t.Error(row, x, e)
		}
	}
	for _, row := range []int{-1, 4, 1 << 62} {
		if x, e := First(s, row); x != 0 || e != api.ErrNone {
			t.Error(row, x, e)
		}
	}
	for _, s := range bad() {
		if x, e := First(s, 9); x != 0 || e != api.ErrForm {
			t.Error(x, e)
		}
	}
}

// P12.2: rows at 0 (" äbc"), 5 (""), 6 ("  x"), 10 (" ")
func TestMove(t *testing.T) {
	s := " äbc\n\n  x\n "
	to, on, rows := api.KindTo, api.KindOn, api.KindRows
	for _, c := range []struct {
		at, key, count int
		to, kind       int // to -1: ErrMove
	}{
		{2, 'h', 0, 1, to}, {2, 'h', 2, 0, to}, {2, 'h', 999, 0, to}, {0, 'h', 0, -1, 0}, {5, 'h', 1, -1, 0}, {6, 'h', 0, -1, 0},
		{2, 'l', 0, 3, to}, {2, 'l', 2, 4, to}, {2, 'l', 999, 4, to}, {4, 'l', 0, -1, 0}, {5, 'l', 0, -1, 0}, {11, 'l', 1, -1, 0},
		{3, '0', 0, 0, to}, {0, '0', 5, 0, to}, {8, '0', 0, 6, to}, {3, '^', 9, 1, to}, {1, '^', 0, 1, to}, {10, '^', 0, 11, to}, {5, '^', 0, 5, to},
		{2, '$', 0, 4, on}, {2, '$', 1, 4, on}, {2, '$', 2, 5, on}, {2, '$', 4, 11, on}, {2, '$', 5, -1, 0}, {5, '$', 0, 5, on},
		{3, 'j', 0, 5, rows}, {3, 'j', 2, 9, rows}, {3, 'j', 3, 11, rows}, {1, 'j', 2, 7, rows}, {3, 'j', 4, -1, 0}, {10, 'j', 0, -1, 0},
		{11, 'k', 0, 7, rows}, {9, 'k', 2, 3, rows}, {9, 'k', 3, -1, 0}, {2, 'k', 1, -1, 0},
		{3, '+', 0, 5, rows}, {3, '+', 2, 8, rows}, {3, '+', 3, 11, rows}, {3, '+', 4, -1, 0}, {7, '-', 0, 5, rows}, {7, '-', 2, 1, rows}, {7, '-', 3, -1, 0},
		{3, '_', 0, 1, rows}, {3, '_', 1, 1, rows}, {3, '_', 3, 8, rows}, {3, '_', 5, -1, 0},
		{3, 'G', 0, 11, rows}, {3, 'G', 1, 1, rows}, {3, 'G', 3, 8, rows}, {3, 'G', 999, 11, rows}, {8, gg, 0, 1, rows}, {8, gg, 2, 5, rows}, {8, gg, 9, 11, rows},
	} {
		x, e := Move(s, c.at, c.key, c.count)
		if c.to < 0 && (x != (api.Target{}) || e != api.ErrMove) || c.to >= 0 && (x != (api.Target{At: c.to, Kind: c.kind}) || e != api.OK) {
			t.Errorf("%d%c at %d: %v %v", c.count, rune(c.key&0xff), c.at, x, e)
		}
	}
	for i, e := range []api.Errno{
		errno(Move("ab", -1, 'h', 1)), errno(Move("ab", 3, 'h', 1)), errno(Move("ab", 1, 'g', 1)), errno(Move("ab", 1, api.OpG+'G', 1)), errno(Move("ab", 1, 'x', 1)), errno(Move("ab", 1, 'h', -1)), errno(Move("ab", 1, 'h', api.MaxCount+1)),
	} {
		if e != api.ErrForm {
			t.Error(i, e)
		}
	}
	for _, s := range bad() {
		if e := errno(Move(s, 0, 'h', 1)); e != api.ErrForm {
			t.Error(e)
		}
	}
	if x, _ := Move("ab\nc", 1, 'j', 0); x.At != 4 {
		t.Error(x)
	}
}

func errno(x api.Target, e api.Errno) api.Errno {
	if x != (api.Target{}) {
		return -1
	}
	return e
}

// P12.3
func TestDownAndUp(t *testing.T) {
	s := "abc\nde\nfghi"
	for _, at := range []int{0, 1, 2, 4, 5, 6} {
		x, _ := Move(s, at, 'j', 1)
		if y, e := Move(s, x.At, 'k', 1); y.At != at || e != api.OK {
			t.Error(at, y, e)
		}
	}
}
