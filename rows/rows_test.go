package rows

import (
	"math/bits"
	"slices"
	"strings"
	"testing"
	"unicode/utf8"

	"quill/api"
)

func look(t *testing.T, x *Tree, want []string) {
	t.Helper()
	bytes, runes := 0, 0
	for i, row := range want {
		b, r, e := x.Ahead(i)
		s, f := x.Row(i)
		if b != bytes || r != runes || s != row || e != api.OK || f != api.OK {
			t.Fatalf("row %d: %d bytes, %d runes ahead, %q, %v, %v", i, b, r, s, e, f)
		}
		bytes += len(row)
		runes += utf8.RuneCountInString(row)
	}
	if b, r, e := x.Ahead(len(want)); b != bytes || r != runes || e != api.OK {
		t.Fatal(b, r, e)
	}
	if x.Len() != len(want) || x.Bytes() != bytes || x.Runes() != runes || !slices.Equal(x.All(), want) {
		t.Fatalf("%d rows, %d bytes, %d runes: %q", x.Len(), x.Bytes(), x.Runes(), x.All())
	}
	if x.Height() > 2+2*bits.Len(uint(len(want))) || x.Height() < bits.Len(uint(len(want))) {
		t.Fatalf("height %d of %d", x.Height(), len(want))
	}
}

// P3.1
func TestNew(t *testing.T) {
	for _, l := range [][]string{{""}, {"a"}, {"ä", "", "世界x", ""}, make([]string, api.MaxRows), {strings.Repeat("x", api.MaxBytes-1), ""}} {
		x, e := New(l...)
		if e != api.OK {
			t.Fatal(e)
		}
		look(t, x, l)
	}
	if x, _ := New("a"); x.Height() != 1 {
		t.Error(x.Height())
	}
	for _, l := range [][]string{nil, {"a\n"}, {"\x00"}, {"\xff"}, {"a", "\xe4"}, make([]string, api.MaxRows+1), {strings.Repeat("x", api.MaxBytes), ""}} {
		if x, e := New(l...); x != nil || e != api.ErrForm {
			t.Error(len(l), e)
		}
	}
	x, _ := New("a", "b")
	for _, i := range []int{-1, 2, 3, 1 << 62} {
		if s, e := x.Row(i); s != "" || e != api.ErrNone {
			t.Error(i, s, e)
		}
	}
	for _, i := range []int{-1, 3, 1 << 62} {
		if b, r, e := x.Ahead(i); b != 0 || r != 0 || e != api.ErrNone {
			t.Error(i, b, r, e)
		}
	}
}

// P3.1: what is handed in, and told, is not the tree's
func TestCopies(t *testing.T) {
	l := []string{"a", "b"}
	x, _ := New(l...)
	l[0] = "x"
	x.All()[1] = "y"
	look(t, x, []string{"a", "b"})
}

// P3.2
func TestSpliceErrors(t *testing.T) {
	x, _ := New("a", strings.Repeat("x", 3000))
	many := make([]string, api.MaxRows)
	for i, c := range []struct{ e, want api.Errno }{
		{x.Splice(-1, 0), api.ErrNone}, {x.Splice(0, -1), api.ErrNone}, {x.Splice(0, 3), api.ErrNone}, {x.Splice(3, 0, "\n"), api.ErrNone}, {x.Splice(2, 1), api.ErrNone}, {x.Splice(1, 1<<63-1), api.ErrNone},
		{x.Splice(0, 2, "a\n"), api.ErrForm}, {x.Splice(0, 0, "\xff"), api.ErrForm}, {x.Splice(0, 0, "ok", "\x00"), api.ErrForm}, {x.Splice(0, 0, strings.Repeat("x", 5000)+"\n"), api.ErrForm},
		{x.Splice(0, 2), api.ErrFull}, {x.Splice(0, 0, many...), api.ErrFull}, {x.Splice(0, 1, many...), api.ErrFull}, {x.Splice(0, 2, strings.Repeat("x", 5000)), api.ErrFull}, {x.Splice(0, 0, strings.Repeat("x", 998)), api.ErrFull},
	} {
		if c.e != c.want {
			t.Errorf("%d: %v, not %v", i, c.e, c.want)
		}
	}
	look(t, x, []string{"a", strings.Repeat("x", 3000)})
	if e := x.Splice(0, 0, strings.Repeat("x", 997)); e != api.OK || x.Bytes()+2 != api.MaxBytes {
		t.Error(e, x.Bytes())
	}
	one, _ := New("a", "b", "c")
	if e := one.Splice(1, 2); e != api.OK || one.Len() != 1 || one.Height() != 1 {
		t.Error(e, one.All())
	}
	if e := x.Splice(0, 3, many...); e != api.OK || x.Len() != api.MaxRows {
		t.Error(e, x.Len())
	}
}

// P3.2, P3.3
func TestSpliceAsASlice(t *testing.T) {
	x, _ := New("")
	want := []string{""}
	seed := 7
	for range 2000 {
		seed = seed * 48271 % 0x7fffffff
		i := seed / 11 % (len(want) + 1)
		n := min(seed/1013%9, len(want)-i)
		var l []string
		for k := range seed / 17 % 12 {
			l = append(l, strings.Repeat("ä", k%3))
		}
		next := slices.Replace(slices.Clone(want), i, i+n, l...)
		e := x.Splice(i, n, l...)
		if fits := len(next) > 0 && len(next) <= api.MaxRows && len(strings.Join(next, "\n")) <= api.MaxBytes; fits != (e == api.OK) || !fits && e != api.ErrFull {
			t.Fatal(len(next), e)
		} else if fits {
			want = next
		}
		look(t, x, want)
	}
	for i := range 500 { // always at the same end
		x.Splice(x.Len(), 0, "")
		x.Splice(0, min(1, i%2))
		look(t, x, x.All())
	}
}
