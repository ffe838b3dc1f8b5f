package marks

import (
	"slices"
	"strings"
	"testing"

	"quill/api"
)

func wrong() [][]api.Mark {
	return [][]api.Mark{{{Name: 'A'}}, {{Name: 'a' - 1}}, {{Name: 'z' + 1}}, {{}}, {{Name: 'a', At: -1}}, {{Name: 'a', At: api.MaxBytes + 1}}, {{Name: 'b'}, {Name: 'a'}}, {{Name: 'a'}, {Name: 'a'}}}
}

// P6.1
func TestCheck(t *testing.T) {
	for _, l := range [][]api.Mark{nil, {}, {{Name: 'a', At: api.MaxBytes}}, {{Name: 'a', At: 5}, {Name: 'z'}}} {
		if e := Check(l); e != api.OK {
			t.Error(l, e)
		}
	}
	for _, l := range wrong() {
		x, f := Set(l, 'a', 0)
		at, g := Get(l, 'a')
		y, h := Move(l, api.Patch{})
		if Check(l) != api.ErrForm || x != nil || f != api.ErrForm || at != 0 || g != api.ErrForm || y != nil || h != api.ErrForm {
			t.Error(l, f, g, h)
		}
	}
}

// P6.1, P6.2
func TestSetAndGet(t *testing.T) {
	var l []api.Mark
	for _, m := range []api.Mark{{Name: 'm', At: 3}, {Name: 'a', At: 4}, {Name: 'z', At: api.MaxBytes}, {Name: 'm', At: 9}, {Name: 'n', At: 0}} {
		old := slices.Clone(l)
		x, e := Set(l, m.Name, m.At)
		at, f := Get(x, m.Name)
		if e != api.OK || f != api.OK || at != m.At || Check(x) != api.OK || !slices.Equal(l, old) {
			t.Error(m, x, e, at, f)
		}
		l = x
	}
	if want := []api.Mark{{Name: 'a', At: 4}, {Name: 'm', At: 9}, {Name: 'n'}, {Name: 'z', At: api.MaxBytes}}; !slices.Equal(l, want) {
		t.Error(l)
	}
	for _, name := range []int{'b', 'A', 0, -1 << 63, 1<<63 - 1} {
		if at, e := Get(l, name); at != 0 || e != api.ErrNone {
			t.Error(name, at, e)
		}
	}
	for _, m := range []api.Mark{{Name: 'A'}, {Name: '{'}, {Name: 'a', At: -1}, {Name: 'a', At: api.MaxBytes + 1}} {
		if x, e := Set(l, m.Name, m.At); x != nil || e != api.ErrForm {
			t.Error(m, x, e)
		}
	}
	x, _ := Set(l[:2], 'b', 1)
	_ = append(x[:1], api.Mark{})
	if l[1].Name != 'm' || l[2].Name != 'n' {
		t.Error(l)
	}
}

// P6.1
func TestMove(t *testing.T) {
	l := []api.Mark{{Name: 'a', At: 0}, {Name: 'b', At: 2}, {Name: 'c', At: 3}, {Name: 'd', At: 5}, {Name: 'e', At: api.MaxBytes}}
	for _, c := range []struct {
		p    api.Patch
		want []int
	}{
		{api.Patch{At: api.MaxBytes, Ins: "x"}, []int{0, 2, 3, 5, api.MaxBytes}},
		{api.Patch{At: 2, Del: 3, Ins: "ä"}, []int{0, 2, -1, 3, api.MaxBytes - 2}},
		{api.Patch{At: 2, Del: 1}, []int{0, 2, 2, 4, api.MaxBytes - 1}},
		{api.Patch{At: 2, Ins: "äx"}, []int{0, 2, 5, 7, api.MaxBytes}},
		{api.Patch{At: 1, Del: api.MaxBytes}, []int{0, -1, -1, -1, -1}},
	} {
		var want []api.Mark
		for i, at := range c.want {
			if at >= 0 {
				want = append(want, api.Mark{Name: 'a' + i, At: at})
			}
		}
		if x, e := Move(l, c.p); !slices.Equal(x, want) || e != api.OK {
			t.Error(c.p, x, e)
		}
	}
	for _, p := range []api.Patch{{At: -1}, {At: api.MaxBytes + 1}, {Del: -1}, {Del: api.MaxBytes + 1}, {Ins: "\xff"}, {Ins: "\x00"}, {Ins: strings.Repeat("x", api.MaxBytes+1)}} {
		for _, l := range [][]api.Mark{l, nil} {
			if x, e := Move(l, p); x != nil || e != api.ErrForm {
				t.Error(p.At, x, e)
			}
		}
	}
	if x, _ := Move(l, api.Patch{}); !slices.Equal(x, l) || &x[0] == &l[0] {
		t.Error(x)
	}
}
