package pairs

import (
	"strings"
	"testing"

	"quill/api"
)

func bad() []string {
	return []string{"\xff", "\x00", strings.Repeat("x", api.MaxBytes+1)}
}

// P14.1, P14.3
func TestMate(t *testing.T) {
	s := "ä(b[c)]{\n}(()"
	want := map[int]int{1: 5, 5: 1, 3: 6, 6: 3, 7: 9, 9: 7, 11: 12, 12: 11}
	for at := range 14 {
		x, e := Mate(s, at)
		if to, ok := want[at]; ok && (x != to || e != api.OK) || !ok && (x != 0 || e != api.ErrMove) {
			t.Error(at, x, e)
		}
		if y, f := Mate(s, x); e == api.OK && (y != at || f != api.OK) {
			t.Error(at, x, y, f)
		}
	}
	for i, e := range []api.Errno{errno(Mate("()", -1)), errno(Mate("()", 3)), errno(Move("()", -1)), errno(Move("()", 3))} {
		if e != api.ErrForm {
			t.Error(i, e)
		}
	}
	for _, s := range bad() {
		o, c, e := Around(s, 0, '(', 1)
		if f, g := errno(Mate(s, 0)), errno(Move(s, 0)); o != 0 || c != 0 || e != api.ErrForm || f != api.ErrForm || g != api.ErrForm {
			t.Error(e, f, g)
		}
	}
}

func errno(x int, e api.Errno) api.Errno {
	if x != 0 {
		return -1
	}
	return e
}

// P14.1
func TestMove(t *testing.T) {
	s := "a(b) {\nx) [\n]}"
	for at, want := range []int{3, 3, 1, 1, 13, 13, -1, -1, -1, 12, 12, -1, 10, 5, -1} {
		x, e := Move(s, at)
		if want < 0 && (x != 0 || e != api.ErrMove) || want >= 0 && (x != want || e != api.OK) {
			t.Errorf("at %d: %d %v", at, x, e)
		}
	}
}

// P14.2
func TestAround(t *testing.T) {
	s := "((a)(b[(]\n)) x"
	for _, c := range []struct {
		at, kind, count int
		open, shut      int // -1: ErrMove
	}{
		{2, '(', 1, 1, 3}, {1, '(', 1, 1, 3}, {3, '(', 1, 1, 3}, {2, '(', 2, -1, 0}, {0, '(', 1, -1, 0}, {8, '(', 1, 7, 10}, {9, '(', 1, 7, 10}, {9, '(', 2, 4, 11}, {9, '(', 3, -1, 0}, {4, '(', 1, 4, 11}, {5, '(', 1, 4, 11}, {11, '(', 1, 4, 11}, {12, '(', 1, -1, 0}, {14, '(', 1, -1, 0},
		{7, '[', 1, 6, 8}, {5, '[', 1, -1, 0}, {7, '{', 1, -1, 0}, {7, '[', api.MaxCount, -1, 0},
	} {
		o, x, e := Around(s, c.at, c.kind, c.count)
		if c.open < 0 && (o != 0 || x != 0 || e != api.ErrMove) || c.open >= 0 && (o != c.open || x != c.shut || e != api.OK) {
			t.Errorf("%c at %d, %d: %d %d %v", c.kind, c.at, c.count, o, x, e)
		}
	}
	for _, c := range [][3]int{{-1, '(', 1}, {15, '(', 1}, {0, ')', 1}, {0, 'b', 1}, {0, 0, 1}, {0, '(', 0}, {0, '(', -1}, {0, '(', api.MaxCount + 1}} {
		if o, x, e := Around(s, c[0], c[1], c[2]); o != 0 || x != 0 || e != api.ErrForm {
			t.Error(c, o, x, e)
		}
	}
	if o, c, e := Around("(a)", 1, '(', 1); o != 0 || c != 2 || e != api.OK {
		t.Error(o, c, e)
	}
	if _, _, e := Around("", 0, '{', 1); e != api.ErrMove {
		t.Error(e)
	}
}
