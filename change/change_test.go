package change

import (
	"strings"
	"testing"

	"quill/api"
	"quill/patch"
)

const (
	gu = api.OpG + 'u'
	gU = api.OpG + 'U'
	gt = api.OpG + '~'
)

type want struct {
	s         string
	low, high int
	line      bool
	key, at   int
	next      string
	to        int
	took      string
}

func look(t *testing.T, l []want) {
	t.Helper()
	for i, c := range l {
		x, e := Of(c.s, api.Range{Low: c.low, High: c.high, Line: c.line}, c.key, c.at)
		p, _ := patch.Between(c.s, c.next)
		if c.key == 'y' {
			p = api.Patch{}
		}
		line := c.line && (c.key == 'y' || c.key == 'd' || c.key == 'c')
		if x != (api.Change{Patch: p, At: c.to, Took: c.took, Line: line}) || e != api.OK {
			next, _ := patch.Apply(c.s, x.Patch)
			t.Errorf("%d: %q %v %v", i, next, x, e)
		}
	}
}

// P18.1, P18.2
func TestYank(t *testing.T) {
	s := "äbc\nd\n\nef"
	look(t, []want{
		{s, 1, 3, false, 'y', 2, s, 1, "bc"}, {s, 3, 8, false, 'y', 3, s, 2, "\nd\n\ne"}, {s, 9, 9, false, 'y', 0, s, 8, ""}, {s, 6, 6, false, 'y', 0, s, 6, ""},
		{s, 0, 5, true, 'y', 5, s, 1, "äbc\nd"}, {s, 4, 9, true, 'y', 2, s, 4, "d\n\nef"}, {s, 6, 9, true, 'y', 2, s, 6, "\nef"}, {s, 6, 6, true, 'y', 9, s, 6, ""},
	})
}

// P18.1
func TestDelete(t *testing.T) {
	look(t, []want{
		{"ab", 0, 1, false, 'd', 0, "b", 0, "a"}, {"ab", 1, 2, false, 'd', 1, "a", 0, "b"}, {"ab\nc", 1, 2, false, 'd', 0, "a\nc", 0, "b"}, {"äb\nc", 1, 4, false, 'd', 0, "ä", 0, "b\nc"}, {"ab", 0, 2, false, 'd', 0, "", 0, "ab"}, {"ab", 1, 1, false, 'd', 0, "ab", 1, ""},
		{"a\n  b\nc", 0, 1, true, 'd', 0, "  b\nc", 2, "a"}, {"a\n  \nc", 0, 1, true, 'd', 0, "  \nc", 1, "a"}, {"a\nb\n c", 2, 3, true, 'd', 2, "a\n c", 3, "b"}, {" a\nb", 3, 4, true, 'd', 3, " a", 1, "b"}, {"a\n\nb", 3, 4, true, 'd', 3, "a\n", 2, "b"}, {"a\nb", 0, 3, true, 'd', 1, "", 0, "a\nb"}, {"a\n", 2, 2, true, 'd', 2, "a", 0, ""}, {"\na", 0, 0, true, 'd', 0, "a", 0, ""}, {"", 0, 0, true, 'd', 0, "", 0, ""},
	})
}

// P18.1
func TestChange(t *testing.T) {
	look(t, []want{
		{"ab", 1, 2, false, 'c', 1, "a", 1, "b"}, {"ab\ncd", 1, 4, false, 'c', 1, "ad", 1, "b\nc"}, {"ab\nc\nd", 0, 4, true, 'c', 3, "\nd", 0, "ab\nc"}, {"a\nb", 2, 3, true, 'c', 2, "a\n", 2, "b"}, {"ab", 0, 2, true, 'c', 2, "", 0, "ab"}, {"ab", 2, 2, false, 'c', 2, "ab", 2, ""},
	})
}

// P18.1
func TestShift(t *testing.T) {
	look(t, []want{
		{"a\n\nb\nc", 0, 3, false, '>', 0, "  a\n\n  b\nc", 2, ""}, {"a\nb", 0, 2, false, '>', 0, "  a\n  b", 2, ""}, {"a\nb\nc", 2, 3, true, '>', 2, "a\n  b\nc", 4, ""}, {"x\n ä", 3, 3, false, '>', 3, "x\n   ä", 5, ""}, {"", 0, 0, true, '>', 0, "", 0, ""}, {"  ", 1, 1, false, '>', 0, "    ", 3, ""},
		{"   a\n\tb\nc\n", 0, 9, true, '<', 0, " a\nb\nc\n", 1, ""}, {"a\n\t b", 0, 1, false, '<', 0, "a\n\t b", 0, ""}, {"a\n\t b", 3, 5, false, '<', 3, "a\nb", 2, ""}, {" \n a", 0, 2, false, '<', 0, "\na", 0, ""}, {"   ", 0, 0, false, '<', 0, " ", 0, ""}, {"äa", 0, 0, false, '<', 0, "äa", 0, ""},
	})
	long := "a\n" + strings.Repeat("x", api.MaxBytes-3)
	if x, e := Of(long, api.Range{}, '>', 0); x != (api.Change{}) || e != api.ErrFull {
		t.Error(e)
	}
	if x, e := Of(long[1:], api.Range{}, '>', 0); x.At != 0 || e != api.OK {
		t.Error(x.At, e)
	}
}

// P18.1
func TestCase(t *testing.T) {
	s := "aZäB\nyz[`{@\n"
	look(t, []want{
		{s, 0, 4, false, gu, 2, "azäb\nyz[`{@\n", 0, ""}, {s, 1, 6, false, gU, 9, "aZäB\nYz[`{@\n", 1, ""}, {s, 0, 12, false, gt, 4, "Azäb\nYZ[`{@\n", 0, ""},
		{s, 5, 11, true, gU, 2, "aZäB\nYZ[`{@\n", 7, ""}, {s, 0, 4, true, gt, 8, "Azäb\nyz[`{@\n", 3, ""}, {s, 12, 12, true, gu, 3, s, 12, ""}, {s, 4, 4, false, gU, 0, s, 3, ""},
	})
}

// P18.1
func TestWrong(t *testing.T) {
	for i, c := range []want{
		{s: "\xff", key: 'd'}, {s: "\x00", key: 'd'}, {s: strings.Repeat("x", api.MaxBytes+1), key: 'd'}, {s: "ab\nc", low: -1, key: 'd'}, {s: "ab\nc", low: 2, high: 1, key: 'd'}, {s: "ab\nc", high: 5, key: 'd'}, {s: "ab\nc", low: 1, high: 2, line: true, key: 'd'}, {s: "ab\nc", high: 1, line: true, key: 'd'}, {s: "ab\nc", high: 3, line: true, key: 'y'},
		{s: "ab\nc", at: -1, key: 'd'}, {s: "ab\nc", at: 5, key: 'd'}, {s: "ab\nc"}, {s: "ab\nc", key: 'x'}, {s: "ab\nc", key: 'u'}, {s: "ab\nc", key: api.OpG + 'd'}, {s: "ab\nc", key: api.OpG},
	} {
		if x, e := Of(c.s, api.Range{Low: c.low, High: c.high, Line: c.line}, c.key, c.at); x != (api.Change{}) || e != api.ErrForm {
			t.Error(i, x, e)
		}
	}
}
