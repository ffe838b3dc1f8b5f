package words

import (
	"slices"
	"strings"
	"testing"

	"quill/api"
)

// P10.2
func TestCells(t *testing.T) {
	for _, c := range []struct {
		s         string
		big       bool
		at, class []int
	}{
		{"", false, []int{0}, []int{3}},
		{"a .\n\n\tä\n", false, []int{0, 1, 2, 4, 5, 6, 8}, []int{1, 0, 2, 3, 0, 1, 3}},
		{"a .\n\n\tä\n", true, []int{0, 1, 2, 4, 5, 6, 8}, []int{1, 0, 1, 3, 0, 1, 3}},
	} {
		if at, class, e := Cells(c.s, c.big); !slices.Equal(at, c.at) || !slices.Equal(class, c.class) || e != api.OK {
			t.Errorf("%q: %v %v %v", c.s, at, class, e)
		}
	}
	for _, s := range []string{"\xff", "\x00", strings.Repeat("x", api.MaxBytes+1)} {
		if at, class, e := Cells(s, false); at != nil || class != nil || e != api.ErrForm {
			t.Error(at, class, e)
		}
	}
}

// P10.1: each offset's target by each key; -1: ErrMove
func TestMove(t *testing.T) {
	for _, c := range []struct {
		s    string
		key  int
		want []int
	}{
		{"ab cd", 'w', []int{3, 3, 3, 4, -1, 4}},
		{"ab cd", 'e', []int{1, 4, 4, 4, -1, 4}},
		{"ab cd", 'b', []int{-1, 0, 0, 0, 3, 3}},
		{"a.b c", 'w', []int{1, 2, 4, 4, -1, 4}},
		{"a.b c", 'W', []int{4, 4, 4, 4, -1, 4}},
		{"a.b c", 'E', []int{2, 2, 4, 4, -1, 4}},
		{"a.b c", 'B', []int{-1, 0, 0, 0, 0, 4}},
		{"a.b c", 'b', []int{-1, 0, 1, 2, 2, 4}},
		{"a\n\n b\n", 'w', []int{2, 2, 4, 4, 6, 6, -1}},
		{"a\n\n b\n", 'e', []int{2, 2, 4, 4, 6, 6, -1}},
		{"a\n\n b\n", 'b', []int{-1, 0, 0, 2, 2, 4, 4}},
		{"a\nb", 'w', []int{2, 2, -1, 2}},
		{"  ", 'w', []int{1, -1, 1}},
		{"  ", 'b', []int{-1, 0, 0}},
		{"a\n\n\nb", 'w', []int{2, 2, 3, 4, -1, 4}}, {"a\n\n\nb", 'e', []int{2, 2, 3, 4, -1, 4}}, {"  ab cd", 'b', []int{-1, 0, 0, 2, 2, 2, 5, 5}},
		{"", 'w', []int{-1}}, {"", 'e', []int{-1}}, {"", 'b', []int{-1}},
	} {
		for at, want := range c.want {
			x, e := Move(c.s, at, c.key, 1)
			if want < 0 && (x != 0 || e != api.ErrMove) || want >= 0 && (x != want || e != api.OK) {
				t.Errorf("%q %c at %d: %d %v", c.s, c.key, at, x, e)
			}
		}
	}
}

// P10.1, P10.3: a count is so many steps; behind w stands a begin, or the last cell
func TestCount(t *testing.T) {
	s := "ab, cd\n\n  e.f \n\tä"
	n := len([]rune(s))
	for _, key := range []int{'w', 'b', 'e', 'W', 'B', 'E'} {
		for at := range n + 1 {
			to := at
			for count := 1; count < 14; count++ {
				if x, e := Move(s, to, key, 1); e == api.OK {
					to = x
				}
				x, e := Move(s, at, key, count)
				if to == at && (x != 0 || e != api.ErrMove) || to != at && (x != to || e != api.OK) {
					t.Errorf("%c at %d, %d times: %d %v, not %d", key, at, count, x, e, to)
				}
			}
			if x, e := Move(s, at, key, api.MaxCount); to == at && e != api.ErrMove || to != at && (x != to || e != api.OK) {
				t.Error(x, to, e)
			}
		}
	}
}

// P10.1
func TestWrong(t *testing.T) {
	for i, e := range []api.Errno{
		errno(Move("\xff", 0, 'w', 1)), errno(Move("\x00", 0, 'w', 1)), errno(Move(strings.Repeat("x", api.MaxBytes+1), 0, 'w', 1)), errno(Move("ab", -1, 'w', 1)), errno(Move("ab", 3, 'w', 1)), errno(Move("ab", 0, 'x', 1)), errno(Move("ab", 0, 0, 1)), errno(Move("ab", 0, 'w', 0)), errno(Move("ab", 0, 'w', api.MaxCount+1)), errno(Move("ab", 0, 'w', -1)),
	} {
		if e != api.ErrForm {
			t.Error(i, e)
		}
	}
}

func errno(x int, e api.Errno) api.Errno {
	if x != 0 {
		return -1
	}
	return e
}
