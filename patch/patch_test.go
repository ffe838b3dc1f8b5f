package patch

import (
	"strings"
	"testing"

	"quill/api"
	"quill/text"
)

func long(n int) string { return strings.Repeat("x", n) }

func wrong() []api.Patch {
	return []api.Patch{{At: -1}, {At: 4}, {Del: -1}, {Del: 4}, {At: 2, Del: 2}, {At: 1, Del: 1<<63 - 1}, {Ins: "\xff"}, {Ins: "\x00"}, {Ins: long(api.MaxBytes) + "\x00"}}
}

// P4.1
func TestApplyAndInvert(t *testing.T) {
	for _, c := range []struct {
		s    string
		p    api.Patch
		want string
		back api.Patch
	}{
		{"", api.Patch{}, "", api.Patch{}},
		{"äbc", api.Patch{At: 1, Del: 1, Ins: "世\n"}, "ä世\nc", api.Patch{At: 1, Del: 2, Ins: "b"}},
		{"äbc", api.Patch{At: 3, Ins: "x"}, "äbcx", api.Patch{At: 3, Del: 1}},
		{"äbc", api.Patch{Del: 3}, "", api.Patch{Ins: "äbc"}},
		{long(api.MaxBytes), api.Patch{At: 1, Del: 2, Ins: "ä"}, "xä" + long(api.MaxBytes-3), api.Patch{At: 1, Del: 1, Ins: "xx"}},
	} {
		s, e := Apply(c.s, c.p)
		q, f := Invert(c.s, c.p)
		if s != c.want || e != api.OK || q != c.back || f != api.OK {
			t.Errorf("%v: %q %v %v %v", c.p, s, e, q, f)
		}
	}
	for _, p := range wrong() {
		s, e := Apply("abc", p)
		q, f := Invert("abc", p)
		if s != "" || e != api.ErrForm || q != (api.Patch{}) || f != api.ErrForm {
			t.Errorf("%v: %v %v", p.At, e, f)
		}
	}
	for _, s := range []string{"\xff", "\x00", long(api.MaxBytes + 1)} {
		if _, e := Apply(s, api.Patch{}); e != api.ErrForm {
			t.Error(e)
		}
		if _, e := Between(s, ""); e != api.ErrForm {
			t.Error(e)
		}
		if p, e := Between("", s); p != (api.Patch{}) || e != api.ErrForm {
			t.Error(e)
		}
	}
	for _, p := range []api.Patch{{Ins: long(api.MaxBytes - 2)}, {Ins: long(9 * api.MaxBytes)}, {Del: 1, Ins: long(api.MaxBytes - 1)}} {
		s, e := Apply("abc", p)
		q, f := Invert("abc", p)
		if s != "" || e != api.ErrFull || q != (api.Patch{}) || f != api.ErrFull {
			t.Errorf("%v %v", e, f)
		}
	}
}

// P4.1, P4.3
func TestBetween(t *testing.T) {
	for _, c := range []struct {
		a, b string
		p    api.Patch
	}{
		{"", "", api.Patch{}}, {"abc", "abc", api.Patch{At: 3}}, {"abc", "axc", api.Patch{At: 1, Del: 1, Ins: "x"}},
		{"aa", "aaa", api.Patch{At: 2, Ins: "a"}}, {"aaa", "a", api.Patch{At: 1, Del: 2}}, {"abab", "ab", api.Patch{At: 2, Del: 2}},
		{"ä", "å", api.Patch{Del: 1, Ins: "å"}}, {"世", "丗", api.Patch{Del: 1, Ins: "丗"}}, {"", "ä\n", api.Patch{Ins: "ä\n"}}, {"xay", "xy", api.Patch{At: 1, Del: 1}},
	} {
		p, e := Between(c.a, c.b)
		s, f := Apply(c.a, p)
		q, g := Invert(c.a, p)
		back, h := Apply(c.b, q)
		if p != c.p || s != c.b || back != c.a || e != api.OK || f != api.OK || g != api.OK || h != api.OK {
			t.Errorf("%q, %q: %v, %q, %q", c.a, c.b, p, s, back)
		}
	}
}

// P4.2
func TestShift(t *testing.T) {
	for _, c := range []struct {
		p      api.Patch
		at, to int
	}{
		{api.Patch{At: 2, Ins: "äb"}, 2, 2}, {api.Patch{At: 2, Ins: "äb"}, 3, 5}, {api.Patch{At: 2, Del: 2}, 2, 2}, {api.Patch{At: 2, Del: 2}, 3, 2}, {api.Patch{At: 2, Del: 2}, 4, 2},
		{api.Patch{At: 2, Del: 3, Ins: "x"}, 4, 2}, {api.Patch{At: 2, Del: 3, Ins: "x"}, 5, 3}, {api.Patch{At: 2, Del: 3, Ins: "x"}, 0, 0},
		{api.Patch{At: api.MaxBytes, Del: api.MaxBytes}, api.MaxBytes, api.MaxBytes}, {api.Patch{Ins: long(api.MaxBytes)}, api.MaxBytes, 2 * api.MaxBytes},
	} {
		if x, e := Shift(c.p, c.at); x != c.to || e != api.OK {
			t.Errorf("%v %d: %d %v", c.p, c.at, x, e)
		}
	}
	for _, p := range []api.Patch{{At: -1}, {At: api.MaxBytes + 1}, {Del: -1}, {Del: api.MaxBytes + 1}, {Ins: "\xff"}, {Ins: "\x00"}, {Ins: long(api.MaxBytes + 1)}} {
		if x, e := Shift(p, 1); x != 0 || e != api.ErrForm {
			t.Error(p.At, x, e)
		}
	}
	for _, at := range []int{-1, api.MaxBytes + 1} {
		if x, e := Shift(api.Patch{}, at); x != 0 || e != api.ErrForm {
			t.Error(at, x, e)
		}
	}
}

// P4.3
func TestInvertUndoesApply(t *testing.T) {
	s := "aä\n世"
	n, _ := text.Len(s)
	for at := range n + 1 {
		for del := range n - at + 1 {
			p := api.Patch{At: at, Del: del, Ins: "x\nö"}
			q, _ := Invert(s, p)
			x, _ := Apply(s, p)
			if y, e := Apply(x, q); y != s || e != api.OK {
				t.Error(p, q, y, e)
			}
		}
	}
}
