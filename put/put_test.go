package put

import (
	"strings"
	"testing"

	"quill/api"
	"quill/change"
	"quill/patch"
)

// P19.1
func TestOf(t *testing.T) {
	for i, c := range []struct {
		s    string
		at   int
		r    api.Reg
		key  int
		n    int
		next string
		to   int
	}{
		{"a", 0, api.Reg{Text: "x"}, 'P', 1, "xa", 0}, {"a", 0, api.Reg{Text: "x"}, 'p', 1, "ax", 1}, {"a\nb", 1, api.Reg{Text: "äy"}, 'p', 2, "aäyäy\nb", 4}, {"ab", 1, api.Reg{Text: "äy"}, 'P', 2, "aäyäyb", 4}, {"", 0, api.Reg{Text: "x"}, 'p', 1, "x", 0}, {"a", 1, api.Reg{Text: "x"}, 'p', 1, "ax", 1},
		{"ab", 0, api.Reg{Text: "x\ny"}, 'p', 2, "ax\nyx\nyb", 1}, {"ab", 0, api.Reg{Text: "\n"}, 'P', 1, "\nab", 0}, {"ab\nc", 2, api.Reg{Text: ""}, 'p', 3, "ab\nc", 1}, {"ab", 0, api.Reg{Text: ""}, 'p', 1, "ab", 0},
		{"ab\nc", 1, api.Reg{Text: " x", Line: true}, 'p', 1, "ab\n x\nc", 4}, {"ab\nc", 4, api.Reg{Text: " x\ny", Line: true}, 'p', 2, "ab\nc\n x\ny\n x\ny", 6}, {"ab\nc", 1, api.Reg{Text: " x", Line: true}, 'P', 2, " x\n x\nab\nc", 1}, {"ab\nc", 4, api.Reg{Text: "  ", Line: true}, 'P', 1, "ab\n  \nc", 4}, {"a", 0, api.Reg{Line: true}, 'p', 2, "a\n\n", 2}, {"a", 0, api.Reg{Line: true}, 'P', 1, "\na", 0}, {"", 0, api.Reg{Text: "x", Line: true}, 'P', 1, "x\n", 0},
		{"a", 0, api.Reg{Name: -7, Text: "x"}, 'P', 999, strings.Repeat("x", 999) + "a", 998},
	} {
		x, e := Of(c.s, c.at, c.r, c.key, c.n)
		p, _ := patch.Between(c.s, c.next)
		if x != (api.Change{Patch: p, At: c.to}) || e != api.OK {
			next, _ := patch.Apply(c.s, x.Patch)
			t.Errorf("%d: %q %v %v", i, next, x, e)
		}
	}
}

// P19.1
func TestErrors(t *testing.T) {
	x, half := api.Reg{Text: "x"}, strings.Repeat("x", api.MaxBytes/2)
	for i, c := range []struct {
		s   string
		at  int
		r   api.Reg
		key int
		n   int
		e   api.Errno
	}{
		{"\xff", 0, x, 'p', 1, api.ErrForm}, {"\x00", 0, x, 'p', 1, api.ErrForm}, {half + half + "x", 0, x, 'p', 1, api.ErrForm}, {"a", -1, x, 'p', 1, api.ErrForm}, {"a", 2, x, 'p', 1, api.ErrForm}, {"a", 0, api.Reg{Text: "\xff"}, 'p', 1, api.ErrForm}, {"a", 0, api.Reg{Text: half + half + "x"}, 'p', 1, api.ErrForm}, {"a", 0, x, 'x', 1, api.ErrForm}, {"a", 0, x, 0, 1, api.ErrForm}, {"a", 0, x, 'p', 0, api.ErrForm}, {"a", 0, x, 'p', -1, api.ErrForm}, {"a", 0, x, 'P', api.MaxCount + 1, api.ErrForm},
		{half + half, 0, x, 'p', 1, api.ErrFull}, {half, 0, api.Reg{Text: half}, 'p', 2, api.ErrFull}, {half, 0, api.Reg{Text: half, Line: true}, 'p', 1, api.ErrFull}, {half + half, 0, api.Reg{Line: true}, 'P', 1, api.ErrFull}, {"", 0, api.Reg{Text: half}, 'p', 999, api.ErrFull},
		{half, 0, api.Reg{Text: half}, 'p', 1, api.OK}, {half, 0, api.Reg{Text: half[1:], Line: true}, 'p', 1, api.OK}, {half + half, 0, api.Reg{}, 'p', 9, api.OK},
	} {
		x, e := Of(c.s, c.at, c.r, c.key, c.n)
		if e != c.e || e != api.OK && x != (api.Change{}) {
			t.Error(i, x.At, e)
		}
	}
}

// P19.2: what d took, and P puts, is as it was, but at a row's end
func TestComesBack(t *testing.T) {
	s := "ab cä\n\nd"
	for low := range 8 {
		for high := low; high <= 8; high++ {
			d, _ := change.Of(s, api.Range{Low: low, High: high}, 'd', low)
			left, _ := patch.Apply(s, d.Patch)
			if d.At != low {
				continue // at a row's end
			}
			c, e := Of(left, d.At, api.Reg{Text: d.Took}, 'P', 1)
			if x, _ := patch.Apply(left, c.Patch); x != s || e != api.OK {
				t.Errorf("%d %d: %q %v", low, high, x, e)
			}
		}
	}
}
