package text

import (
	"slices"
	"strings"
	"sync"
	"testing"

	"quill/api"
)

func bad() []string {
	return []string{"\x00", "a\x00", "\xff", "\xc0\x80", "a\xe4", "\xed\xa0\x80", strings.Repeat("a", api.MaxBytes+1)}
}

// P1.1
func TestCheckLenRows(t *testing.T) {
	for s, n := range map[string]int{"": 0, "a": 1, "ä\n世": 3, "\n\n": 2, "\x01\U0010ffff": 2, strings.Repeat("ä", api.MaxBytes/2): api.MaxBytes / 2} {
		if x, e := Len(s); x != n || e != api.OK || Check(s) != api.OK {
			t.Errorf("%q: %d %v", s, x, e)
		}
	}
	for _, s := range bad() {
		n, e := Len(s)
		l, f := Rows(s)
		if Check(s) != api.ErrForm || n != 0 || e != api.ErrForm || l != nil || f != api.ErrForm {
			t.Errorf("%q: %d %v %v %v", s, n, e, l, f)
		}
	}
	for s, want := range map[string][]string{"": {""}, "a": {"a"}, "a\n": {"a", ""}, "\n\nb": {"", "", "b"}} {
		if l, e := Rows(s); !slices.Equal(l, want) || e != api.OK {
			t.Errorf("%q: %q %v", s, l, e)
		}
	}
}

// P1.1
func TestJoin(t *testing.T) {
	for want, l := range map[string][]string{"": {""}, "a\nb": {"a", "b"}, "\n\n": {"", "", ""}} {
		if s, e := Join(l); s != want || e != api.OK {
			t.Errorf("%q: %q %v", l, s, e)
		}
	}
	half := strings.Repeat("a", api.MaxBytes/2)
	if s, e := Join([]string{half, half[1:]}); len(s) != api.MaxBytes || e != api.OK {
		t.Error(len(s), e)
	}
	if s, e := Join(make([]string, api.MaxBytes+1)); s != strings.Repeat("\n", api.MaxBytes) || e != api.OK {
		t.Error(len(s), e)
	}
	for _, l := range [][]string{nil, {}, {"a\n"}, {"a", "b\nc"}, {"\xff"}, {"a\x00"}, {half, half}, {"\xe4", "\xb8"}, make([]string, api.MaxBytes+2)} {
		if s, e := Join(l); s != "" || e != api.ErrForm {
			t.Errorf("%d: %q %v", len(l), s, e)
		}
	}
}

// P1.2, P1.4
func TestPlaces(t *testing.T) {
	for _, s := range []string{"", "a", "ab\nc", "\n\n", "ä\n\n世界\n"} {
		n, _ := Len(s)
		for at := range n + 1 {
			p, e := Place(s, at)
			x, f := Offset(s, p)
			head, _ := Cut(s, 0, at)
			if e != api.OK || f != api.OK || x != at || p.Row != strings.Count(head, "\n") {
				t.Errorf("%q at %d: %v %d %v %v", s, at, p, x, e, f)
			}
		}
		for _, at := range []int{-1, n + 1, 1 << 62, -1 << 63} {
			p, e := Place(s, at)
			x, f := Rest(s, at)
			if p != (api.Pos{}) || e != api.ErrNone || x != 0 || f != api.ErrNone {
				t.Errorf("%q at %d: %v %v", s, at, p, e)
			}
		}
	}
	if p, _ := Place("ab\nc", 3); p != (api.Pos{Row: 1}) {
		t.Error(p)
	}
	for _, p := range []api.Pos{{Row: -1}, {Row: 2}, {Col: -1}, {Col: 3}, {Row: 1, Col: 2}} {
		if x, e := Offset("ab\nc", p); x != 0 || e != api.ErrNone {
			t.Error(p, x, e)
		}
	}
	for _, s := range bad() {
		_, e := Place(s, 0)
		_, f := Offset(s, api.Pos{})
		_, g := Cut(s, 0, 0)
		_, h := Rest(s, 0)
		if e != api.ErrForm || f != api.ErrForm || g != api.ErrForm || h != api.ErrForm {
			t.Errorf("%q: %v %v %v %v", s, e, f, g, h)
		}
	}
}

// P1.2
func TestCut(t *testing.T) {
	r := []rune("ä\n世b")
	for low := range 5 {
		for high := low; high < 5; high++ {
			if x, e := Cut(string(r), low, high); x != string(r[low:high]) || e != api.OK {
				t.Errorf("%d %d: %q %v", low, high, x, e)
			}
		}
	}
	for _, p := range [][2]int{{-1, 0}, {0, 5}, {3, 2}, {5, 5}, {0, -1}, {4, 1 << 62}, {-1 << 63, 1<<63 - 1}} {
		if x, e := Cut(string(r), p[0], p[1]); x != "" || e != api.ErrNone {
			t.Errorf("%v: %q %v", p, x, e)
		}
	}
}

// P1.3
func TestClassAndRest(t *testing.T) {
	want := map[int]int{' ': 0, '\t': 0, 'a': 1, 'm': 1, 'z': 1, 'A': 1, 'Z': 1, '0': 1, '9': 1, '_': 1, 128: 1, 0x2003: 1, 1 << 62: 1, '\n': 2, '.': 2, '@': 2, '`': 2, '[': 2, '{': 2, '/': 2, ':': 2, 0: 2, 127: 2, -1: 2, -1 << 63: 2}
	var w sync.WaitGroup
	for range 4 {
		w.Go(func() {
			for r, c := range want {
				if Class(r) != c {
					t.Errorf("%d: %d", r, Class(r))
				}
			}
		})
	}
	w.Wait()
	for s, l := range map[string][]int{"": {0}, "ab": {0, 1, 1}, "ä\n\nb": {0, 0, 2, 3, 3}, "\n": {0, 1}} {
		for at, x := range l {
			if y, e := Rest(s, at); y != x || e != api.OK {
				t.Errorf("%q at %d: %d %v", s, at, y, e)
			}
		}
	}
}

// The table of kinds is made once, whoever asks first.
func TestTable(t *testing.T) {
	var w sync.WaitGroup
	for range 8 {
		w.Go(func() {
			if s, e := Join([]string{"a", "ä", ""}); s != "a\nä\n" || e != api.OK {
				t.Error(s, e)
			}
		})
	}
	w.Wait()
	for b, k := range kinds {
		if k != kindOf(b) {
			t.Error(b, k)
		}
	}
}

// Of all calls only Join stands upon the table.
func TestWithoutTable(t *testing.T) {
	if s, e := Join([]string{"a"}); s != "a" || e != api.OK {
		t.Error(s, e)
	}
	was := kinds
	defer func() { kinds = was }()
	for b := range kinds {
		kinds[b] = ^was[b]
	}
	if s, e := Join([]string{"a"}); s != "" || e != api.ErrForm {
		t.Error(s, e)
	}
	TestCheckLenRows(t)
	TestPlaces(t)
	TestCut(t)
	TestClassAndRest(t)
}
