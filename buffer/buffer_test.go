package buffer

import (
	"strings"
	"testing"

	"quill/api"
	"quill/patch"
	"quill/text"
)

func long(n int) string { return strings.Repeat("x", n) }

func lines(n int) string { return strings.Repeat("\n", n-1) }

func look(t *testing.T, b *Buffer, s string) {
	t.Helper()
	n, _ := text.Len(s)
	l, _ := text.Rows(s)
	if b.Text() != s || b.Len() != n || b.Rows() != len(l) {
		t.Fatalf("%q, %d runes, %d rows; not %q", b.Text(), b.Len(), b.Rows(), s)
	}
	for i, row := range l {
		if x, e := b.Row(i); x != row || e != api.OK {
			t.Fatal(i, x, e)
		}
	}
	for at := -1; at <= n+1; at++ {
		p, e := b.Place(at)
		q, f := text.Place(s, at)
		x, g := b.Offset(p)
		if p != q || e != f || e == api.OK && (x != at || g != api.OK) {
			t.Fatal(at, p, e, q, f, x, g)
		}
	}
}

// P5.1
func TestNew(t *testing.T) {
	for _, s := range []string{"", "a", "ä\n\n世界", lines(api.MaxRows), long(api.MaxGap) + "\n" + long(api.MaxGap)} {
		b, e := New(len(s), s)
		if e != api.OK {
			t.Fatal(e)
		}
		look(t, b, s)
	}
	for _, c := range []struct {
		most int
		s    string
		e    api.Errno
	}{
		{-1, "", api.ErrForm}, {api.MaxBytes + 1, "", api.ErrForm}, {9, "\xff", api.ErrForm}, {9, "\x00", api.ErrForm}, {0, "\x00", api.ErrForm}, {api.MaxBytes, long(api.MaxBytes + 1), api.ErrForm},
		{api.MaxBytes, lines(api.MaxRows + 1), api.ErrForm}, {api.MaxBytes, "\n" + long(api.MaxGap+1), api.ErrForm}, {1, "ä", api.ErrFull}, {0, "a", api.ErrFull},
	} {
		if b, e := New(c.most, c.s); b != nil || e != c.e {
			t.Error(c.most, len(c.s), e)
		}
	}
	b, _ := New(9, "ab\nc")
	for _, i := range []int{-1, 2, 1 << 62} {
		if s, e := b.Row(i); s != "" || e != api.ErrNone {
			t.Error(i, s, e)
		}
	}
	for _, p := range []api.Pos{{Row: -1}, {Row: 2}, {Col: 3}, {Col: -1}, {Row: 1, Col: 2}} {
		if x, e := b.Offset(p); x != 0 || e != api.ErrNone {
			t.Error(p, x, e)
		}
	}
}

// P5.2
func TestApplyErrors(t *testing.T) {
	s := "abc\n" + long(api.MaxGap-1)
	b, _ := New(1200, s)
	for i, c := range []struct {
		p api.Patch
		e api.Errno
	}{
		{api.Patch{At: -1}, api.ErrForm}, {api.Patch{At: len(s) + 1}, api.ErrForm}, {api.Patch{Del: -1}, api.ErrForm}, {api.Patch{At: 1, Del: len(s)}, api.ErrForm}, {api.Patch{At: 1, Del: 1<<63 - 1}, api.ErrForm}, {api.Patch{Ins: "\xff"}, api.ErrForm}, {api.Patch{Ins: "\x00"}, api.ErrForm}, {api.Patch{Ins: long(5000) + "\x00"}, api.ErrForm},
		{api.Patch{Ins: long(5000)}, api.ErrFull}, {api.Patch{Ins: lines(1200 - len(s) + 2)}, api.ErrFull}, {api.Patch{At: 4, Ins: "ab"}, api.ErrFull}, {api.Patch{At: 3, Del: 1}, api.ErrFull}, {api.Patch{Del: 3, Ins: "abcdef\n" + long(api.MaxBytes)}, api.ErrFull},
	} {
		if p, e := b.Apply(c.p); p != (api.Patch{}) || e != c.e || b.Count() != 0 {
			t.Error(i, p, e, b.Count())
		}
	}
	look(t, b, s)
	if _, e := b.Apply(api.Patch{At: 4, Ins: "ä"}); e != api.OK {
		t.Error(e)
	}
	b, _ = New(api.MaxBytes, lines(api.MaxRows))
	if _, e := b.Apply(api.Patch{Ins: "\n"}); e != api.ErrFull {
		t.Error(e)
	}
	if _, e := b.Apply(api.Patch{Del: 1, Ins: "a\nb"}); e != api.OK || b.Rows() != api.MaxRows {
		t.Error(e)
	}
}

// P5.2: up to the last byte
func TestApplyMost(t *testing.T) {
	b, _ := New(8, "ä\nbc")
	if p, e := b.Apply(api.Patch{At: 2, Del: 1, Ins: "xyzvw"}); p != (api.Patch{}) || e != api.ErrFull {
		t.Error(p, e)
	}
	if p, e := b.Apply(api.Patch{At: 2, Del: 1, Ins: "xyzv"}); p != (api.Patch{At: 2, Del: 4, Ins: "b"}) || e != api.OK {
		t.Error(p, e)
	}
	look(t, b, "ä\nxyzvc")
	if _, e := b.Apply(api.Patch{Ins: "a"}); e != api.ErrFull {
		t.Error(e)
	}
}

// P5.2, P5.3
func TestApplyAsPatch(t *testing.T) {
	b, _ := New(300, "one\ntwö")
	s, count, seed := "one\ntwö", 0, 3
	pieces := []string{"", "a", "ä", "\n", "x\ny", "世界", "\n\n"}
	for range 3000 {
		seed = seed * 48271 % 0x7fffffff
		n, _ := text.Len(s)
		at := seed / 7 % (n + 1)
		p := api.Patch{At: at, Del: min(seed/1009%4, n-at), Ins: pieces[seed/31%len(pieces)]}
		want, _ := patch.Apply(s, p)
		undo, _ := patch.Invert(s, p)
		q, e := b.Apply(p)
		if len(want) > 300 {
			if q != (api.Patch{}) || e != api.ErrFull {
				t.Fatal(q, e)
			}
			continue
		}
		if q != undo || e != api.OK {
			t.Fatal(p, q, undo, e)
		}
		s = want
		count++
		if seed%3 == 0 {
			look(t, b, s)
		}
		if seed%5 == 0 {
			b.Apply(q)
			s, _ = patch.Apply(s, q)
			count++
		}
		if b.Text() != s || b.Count() != count {
			t.Fatal(b.Count(), count)
		}
	}
}
