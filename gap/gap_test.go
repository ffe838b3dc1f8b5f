package gap

import (
	"strings"
	"testing"

	"quill/api"
)

func runes(s string) []int {
	var l []int
	for _, c := range s {
		l = append(l, int(c))
	}
	return l
}

func look(t *testing.T, r *Row, s string, gap, moves int) {
	t.Helper()
	if r.Text() != s || r.Len() != len([]rune(s)) || r.Gap() != gap || r.Moves() != moves {
		t.Errorf("%q, %d runes, gap %d, moves %d; not %q, %d, %d", r.Text(), r.Len(), r.Gap(), r.Moves(), s, gap, moves)
	}
}

// P2.1
func TestNew(t *testing.T) {
	r, e := New(4, "aä世\U0010ffff")
	if e != api.OK {
		t.Fatal(e)
	}
	look(t, r, "aä世\U0010ffff", 0, 0)
	for i, c := range runes("aä世\U0010ffff") {
		if x, e := r.Rune(i); x != c || e != api.OK {
			t.Error(i, x, e)
		}
	}
	for _, i := range []int{-1, 4, 1 << 62, -1 << 63} {
		if x, e := r.Rune(i); x != 0 || e != api.ErrNone {
			t.Error(i, x, e)
		}
	}
	for _, c := range []struct {
		room int
		s    string
		e    api.Errno
	}{{-1, "", api.ErrForm}, {api.MaxGap + 1, "", api.ErrForm}, {9, "a\n", api.ErrForm}, {9, "\x00", api.ErrForm}, {9, "\xff", api.ErrForm}, {0, "a\xff", api.ErrForm}, {0, "a", api.ErrFull}, {2, "äöü", api.ErrFull}} {
		if r, e := New(c.room, c.s); r != nil || e != c.e {
			t.Error(c, e)
		}
	}
	if r, e := New(1, "\x01"); e != api.OK || r.Insert(0, 2) != api.ErrFull || r.Delete(0, 1) != api.OK || r.Insert(0, 1) != api.OK {
		t.Error(e)
	}
	if r, e := New(api.MaxGap, strings.Repeat("ä", api.MaxGap)); e != api.OK || r.Len() != api.MaxGap {
		t.Error(e)
	}
}

// P2.2, P2.3
func TestEdits(t *testing.T) {
	r, _ := New(8, "abcd")
	steps := []struct {
		e      api.Errno
		s      string
		gap, m int
	}{
		{r.Insert(2, 'x', 'y'), "abxycd", 4, 2},
		{r.Insert(4, 0x10ffff), "abxy\U0010ffffcd", 5, 2},
		{r.Delete(4, 2), "abxyd", 4, 3},
		{r.Insert(0), "abxyd", 0, 7},
		{r.Delete(5, 0), "abxyd", 5, 12},
		{r.Insert(5, 'e', 'f', 'g'), "abxydefg", 8, 12},
		{r.Delete(0, 8), "", 0, 20},
	}
	for i, x := range steps {
		if x.e != api.OK {
			t.Error(i, x.e)
		}
	}
	look(t, r, "", 0, 20)
	again, _ := New(8, "abcd")
	for i, do := range []func() api.Errno{
		func() api.Errno { return again.Insert(2, 'x', 'y') },
		func() api.Errno { return again.Insert(4, 0x10ffff) },
		func() api.Errno { return again.Delete(4, 2) },
		func() api.Errno { return again.Insert(0) },
		func() api.Errno { return again.Delete(5, 0) },
		func() api.Errno { return again.Insert(5, 'e', 'f', 'g') },
		func() api.Errno { return again.Delete(0, 8) },
	} {
		do()
		look(t, again, steps[i].s, steps[i].gap, steps[i].m)
	}
}

// P2.2: what errs changes nothing
func TestErrors(t *testing.T) {
	r, _ := New(4, "abc")
	r.Insert(1)
	many := make([]int, 5)
	for i, x := range []struct{ e, want api.Errno }{
		{r.Insert(-1, 'x'), api.ErrNone}, {r.Insert(4, 'x'), api.ErrNone}, {r.Insert(4, 0), api.ErrNone},
		{r.Insert(0, 'x', 0), api.ErrForm}, {r.Insert(0, 10), api.ErrForm}, {r.Insert(0, 0xd800), api.ErrForm}, {r.Insert(0, 0xdfff), api.ErrForm}, {r.Insert(0, 0x110000), api.ErrForm}, {r.Insert(0, -1), api.ErrForm}, {r.Insert(0, 1<<32+'a'), api.ErrForm}, {r.Insert(0, many...), api.ErrForm},
		{r.Insert(0, 'x', 'y'), api.ErrFull},
		{r.Delete(-1, 1), api.ErrNone}, {r.Delete(0, -1), api.ErrNone}, {r.Delete(0, 4), api.ErrNone}, {r.Delete(4, 0), api.ErrNone}, {r.Delete(4, -1), api.ErrNone}, {r.Delete(3, 1<<63-1), api.ErrNone},
	} {
		if x.e != x.want {
			t.Errorf("%d: %v, not %v", i, x.e, x.want)
		}
		look(t, r, "abc", 1, 1)
	}
	for _, p := range [][2]int{{-1, 1}, {0, -1}, {0, 4}, {4, 0}, {2, 1<<63 - 1}} {
		if s, e := r.Slice(p[0], p[1]); s != "" || e != api.ErrNone {
			t.Error(p, s, e)
		}
	}
}

// P2.4: against a plain slice of runes
func TestAsASlice(t *testing.T) {
	r, _ := New(40, "")
	var want []int
	gap, moves, seed := 0, 0, 1
	for range 3000 {
		seed = seed * 48271 % 0x7fffffff
		i := seed / 7 % (len(want) + 1)
		n := seed / 1000 % 5
		if seed%2 == 0 && len(want)+n <= 40 {
			l := runes("äbcde")[:n]
			if e := r.Insert(i, l...); e != api.OK {
				t.Fatal(e)
			}
			want = append(want[:i:i], append(l, want[i:]...)...)
			moves += max(i-gap, gap-i)
			gap = i + n
		} else if n = min(n, len(want)-i); n >= 0 {
			if e := r.Delete(i, n); e != api.OK {
				t.Fatal(e)
			}
			want = append(want[:i:i], want[i+n:]...)
			moves += max(i-gap, gap-i)
			gap = i
		}
		var s []rune
		for _, c := range want {
			s = append(s, rune(c))
		}
		look(t, r, string(s), gap, moves)
		for i, c := range want {
			if x, e := r.Rune(i); x != c || e != api.OK {
				t.Fatal(i, x, e)
			}
		}
		low := seed / 3 % (len(s) + 1)
		high := low + seed/5%(len(s)-low+1)
		if x, e := r.Slice(low, high-low); x != string(s[low:high]) || e != api.OK {
			t.Fatal(x, e)
		}
	}
}
