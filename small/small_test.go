package small

import (
	"strings"
	"testing"

	"quill/api"
	"quill/patch"
	"quill/text"
)

// P20.1
func TestOf(t *testing.T) {
	s := "äbC\n\n  \t)x\n \ny"
	for i, c := range []struct {
		s             string
		at, key, r, n int
		next          string // "-": ErrMove
		to            int
		took          string
	}{
		{"ab", 0, 'x', 0, 1, "b", 0, "a"}, {s, 1, 'x', -1, 1, "äC\n\n  \t)x\n \ny", 1, "b"}, {s, 1, 'x', 0, 999, "ä\n\n  \t)x\n \ny", 0, "bC"}, {s, 0, 'x', 0, 3, "\n\n  \t)x\n \ny", 0, "äbC"}, {s, 3, 'x', 0, 1, "-", 0, ""}, {s, 4, 'x', 0, 1, "-", 0, ""}, {s, 14, 'x', 0, 1, "-", 0, ""},
		{s, 2, 'X', 0, 1, "äC\n\n  \t)x\n \ny", 1, "b"}, {s, 3, 'X', 0, 2, "ä\n\n  \t)x\n \ny", 1, "bC"}, {s, 3, 'X', 0, 9, "\n\n  \t)x\n \ny", 0, "äbC"}, {s, 0, 'X', 0, 1, "-", 0, ""}, {s, 4, 'X', 0, 1, "-", 0, ""}, {s, 14, 'X', 0, 1, "äbC\n\n  \t)x\n \n", 13, "y"},
		{"\"q", 2, 'X', 0, 1, "\"", 1, "q"}, {"abc", 3, 'X', 0, 2, "a", 1, "bc"}, {"abc", 3, 'X', 0, 1, "ab", 2, "c"}, {"ab\nc", 2, 'X', 0, 1, "a\nc", 1, "b"}, {"a\nbc", 4, 'X', 0, 1, "a\nb", 3, "c"}, {"ab", 2, 'X', 0, 2, "", 0, "ab"},
		{s, 1, 'r', 'ö', 2, "äöö\n\n  \t)x\n \ny", 2, ""}, {s, 1, 'r', 0x10ffff, 1, "ä\U0010ffffC\n\n  \t)x\n \ny", 1, ""}, {s, 1, 'r', 32, 1, "ä C\n\n  \t)x\n \ny", 1, ""}, {s, 1, 'r', 'x', 3, "-", 0, ""}, {s, 3, 'r', 'x', 1, "-", 0, ""}, {s, 0, 'r', 'ä', 1, s, 0, ""}, {s, 0, 'r', 127, 1, "\x7fbC\n\n  \t)x\n \ny", 0, ""},
		{s, 0, '~', 0, 1, s, 1, ""}, {s, 0, '~', 0, 2, "äBC\n\n  \t)x\n \ny", 2, ""}, {s, 1, '~', 0, 9, "äBc\n\n  \t)x\n \ny", 2, ""}, {s, 3, '~', 0, 1, "-", 0, ""}, {s, 4, '~', 0, 1, "-", 0, ""},
		{s, 1, 'J', 0, 1, "äbC\n  \t)x\n \ny", 2, ""}, {s, 1, 'J', 0, 2, "äbC\n  \t)x\n \ny", 2, ""}, {s, 1, 'J', 0, 3, "äbC)x\n \ny", 3, ""}, {s, 1, 'J', 0, 4, "äbC)x\ny", 4, ""}, {s, 1, 'J', 0, 5, "äbC)x y", 5, ""}, {s, 1, 'J', 0, 6, "-", 0, ""}, {s, 4, 'J', 0, 0 + 1, "äbC\n)x\n \ny", 4, ""}, {s, 11, 'J', 0, 1, "äbC\n\n  \t)x\n y", 12, ""}, {s, 13, 'J', 0, 1, "-", 0, ""},
		{"a\nb", 0, 'J', 0, 2, "a b", 1, ""}, {"a \n  b", 0, 'J', 0, 2, "a b", 2, ""}, {"a\t\nb", 0, 'J', 0, 2, "a\tb", 2, ""}, {"\n\nb", 0, 'J', 0, 3, "b", 0, ""}, {"a\n", 0, 'J', 0, 1, "a", 0, ""}, {"a\n)", 0, 'J', 0, 1, "a)", 1, ""},
	} {
		x, e := Of(c.s, c.at, c.key, c.r, c.n)
		if c.next == "-" {
			if x != (api.Change{}) || e != api.ErrMove {
				t.Errorf("%d: %v %v", i, x, e)
			}
			continue
		}
		p, _ := patch.Between(c.s, c.next)
		if x != (api.Change{Patch: p, At: c.to, Took: c.took}) || e != api.OK {
			next, _ := patch.Apply(c.s, x.Patch)
			t.Errorf("%d: %q %v %v", i, next, x, e)
		}
	}
}

// P20.1
func TestErrors(t *testing.T) {
	full := strings.Repeat("x", api.MaxBytes)
	for i, c := range []struct {
		s             string
		at, key, r, n int
		e             api.Errno
	}{
		{"\xff", 0, 'x', 0, 1, api.ErrForm}, {"\x00", 0, 'x', 0, 1, api.ErrForm}, {full + "x", 0, 'x', 0, 1, api.ErrForm}, {"ab", -1, 'x', 0, 1, api.ErrForm}, {"ab", 3, 'x', 0, 1, api.ErrForm}, {"ab", 0, 'y', 0, 1, api.ErrForm}, {"ab", 0, 0, 0, 1, api.ErrForm}, {"ab", 0, 'x', 0, 0, api.ErrForm}, {"ab", 0, 'x', 0, -1, api.ErrForm}, {"ab", 0, 'x', 0, api.MaxCount + 1, api.ErrForm},
		{"ab", 0, 'r', 31, 1, api.ErrForm}, {"ab", 0, 'r', 10, 9, api.ErrForm}, {"ab", 0, 'r', 0xd800, 1, api.ErrForm}, {"ab", 0, 'r', 0xdfff, 1, api.ErrForm}, {"ab", 0, 'r', 0x110000, 1, api.ErrForm}, {"ab", 0, 'r', -1, 1, api.ErrForm}, {"ab", 0, 'r', 1<<32 + 'a', 1, api.ErrForm},
		{full, 0, 'r', 'ä', 1, api.ErrFull}, {full[1:], 0, 'r', 'ä', 1, api.OK}, {full[1:], 0, 'r', 'ä', 2, api.ErrFull},
	} {
		x, e := Of(c.s, c.at, c.key, c.r, c.n)
		if e != c.e || e != api.OK && x != (api.Change{}) {
			t.Error(i, x.At, e)
		}
	}
}

// P20.2
func TestNoLengths(t *testing.T) {
	s := "abc\nde"
	for at := range 7 {
		for n := 1; n < 5; n++ {
			x, e := Of(s, at, 'r', '世', n)
			next, _ := patch.Apply(s, x.Patch)
			if k, _ := text.Len(next); e == api.OK && k != 6 {
				t.Error(at, n, next)
			}
		}
	}
}
