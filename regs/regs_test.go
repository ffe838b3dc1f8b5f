package regs

import (
	"slices"
	"strings"
	"testing"

	"quill/api"
)

func reg(name int, s string) api.Reg { return api.Reg{Name: name, Text: s} }

func line(name int, s string) api.Reg { return api.Reg{Name: name, Text: s, Line: true} }

func long(n int) string { return strings.Repeat("x", n) }

// P9.1
func TestCheckAndGet(t *testing.T) {
	l := []api.Reg{reg('"', "last"), reg('-', "small"), line('0', "zero"), reg('9', ""), reg('a', "ä"), line('z', "z\n")}
	if Check(l) != api.OK || Check(nil) != api.OK {
		t.Error("check")
	}
	for name, want := range map[int]api.Reg{0: l[0], '"': l[0], '-': l[1], '0': l[2], '9': l[3], 'a': l[4], 'A': l[4], 'z': l[5], 'Z': l[5]} {
		if r, e := Get(l, name); r != want || e != api.OK {
			t.Error(name, r, e)
		}
	}
	for _, name := range []int{'_', '1', 'b', 'B'} {
		if r, e := Get(l, name); r != (api.Reg{}) || e != api.ErrReg {
			t.Error(name, r, e)
		}
	}
	if _, e := Get(nil, 0); e != api.ErrReg {
		t.Error(e)
	}
	for _, name := range []int{-1, ' ', '!', '#', '/', ':', '@', '[', '`', '{', 1 << 62} {
		r, e := Get(l, name)
		x, f := Yank(l, name, "", false)
		y, g := Delete(l, name, "", false)
		if r != (api.Reg{}) || e != api.ErrForm || x != nil || f != api.ErrForm || y != nil || g != api.ErrForm {
			t.Error(name, r, e, f, g)
		}
	}
	for i, l := range [][]api.Reg{{reg('A', "")}, {reg('_', "")}, {reg(0, "")}, {reg('a', "\xff")}, {reg('a', "\x00")}, {reg('a', long(api.MaxBytes+1))}, {reg('b', ""), reg('a', "")}, {reg('a', ""), reg('a', "")}, {reg('-', ""), reg('"', "")}} {
		_, e := Get(l, 'a')
		_, f := Yank(l, 'a', "", false)
		_, g := Delete(l, '_', "", false)
		if Check(l) != api.ErrForm || e != api.ErrForm || f != api.ErrForm || g != api.ErrForm {
			t.Error(i, e, f, g)
		}
	}
}

// P9.2, P9.4
func TestYank(t *testing.T) {
	l := []api.Reg{reg('"', "q"), reg('0', "old"), reg('a', "x"), line('b', "y"), line('c', ""), reg('f', long(api.MaxBytes))}
	for _, c := range []struct {
		name int
		s    string
		line bool
		want []api.Reg // what is not as in l
	}{
		{'_', "s", true, nil},
		{'a', "s\n", true, []api.Reg{line('"', "s\n"), line('a', "s\n")}},
		{'A', "s", false, []api.Reg{reg('"', "xs"), reg('a', "xs")}},
		{'A', "s", true, []api.Reg{line('"', "x\ns"), line('a', "x\ns")}},
		{'B', "s", false, []api.Reg{line('"', "y\ns"), line('b', "y\ns")}},
		{'C', "s", false, []api.Reg{line('"', "s"), line('c', "s")}},
		{'D', "s", true, []api.Reg{line('"', "s"), line('d', "s")}},
		{'E', "", false, []api.Reg{reg('"', ""), reg('e', "")}},
		{'F', "", false, []api.Reg{reg('"', long(api.MaxBytes))}},
		{'f', "", false, []api.Reg{reg('"', ""), reg('f', "")}},
		{0, "ä", false, []api.Reg{reg('"', "ä"), reg('0', "ä")}},
		{'"', "s", true, []api.Reg{line('"', "s"), line('0', "s")}},
		{'-', "s", false, []api.Reg{reg('"', "s"), reg('0', "s")}},
		{'5', "s\n", false, []api.Reg{reg('"', "s\n"), reg('0', "s\n")}},
	} {
		old := slices.Clone(l)
		x, e := Yank(l, c.name, c.s, c.line)
		if want := laid(l, c.want); !slices.Equal(x, want) || e != api.OK || Check(x) != api.OK || !slices.Equal(l, old) {
			t.Errorf("%c: %v, %v", c.name, x, e)
		}
		if c.name != '_' && c.name != 'F' {
			if r, e := Get(x, c.name); e == api.OK && !strings.HasSuffix(r.Text, c.s) {
				t.Errorf("%c: %v", c.name, r)
			}
		}
	}
	for _, s := range []string{"\xff", "\x00", long(api.MaxBytes + 1)} {
		for _, name := range []int{0, 'a', '_'} {
			x, e := Yank(l, name, s, false)
			y, f := Delete(l, name, s, false)
			if x != nil || e != api.ErrForm || y != nil || f != api.ErrForm {
				t.Error(name, e, f)
			}
		}
	}
	for _, f := range []func([]api.Reg, int, string, bool) ([]api.Reg, api.Errno){Yank, Delete} {
		if x, e := f(l, 'F', "s", false); x != nil || e != api.ErrFull {
			t.Error(e)
		}
		if x, e := f(l, 'F', "", true); x != nil || e != api.ErrFull {
			t.Error(e)
		}
	}
	x, _ := Yank(l, '_', "", false)
	x[0].Text = "?"
	if l[0].Text != "q" {
		t.Error("shared")
	}
}

// laid puts registers over others.
func laid(l, over []api.Reg) []api.Reg {
	m := map[int]api.Reg{}
	for _, r := range append(slices.Clone(l), over...) {
		m[r.Name] = r
	}
	var x []api.Reg
	for name := range 128 {
		if r, ok := m[name]; ok {
			x = append(x, r)
		}
	}
	return x
}

// P9.3
func TestDelete(t *testing.T) {
	l := []api.Reg{reg('0', "zero"), reg('1', "one"), line('2', "two"), reg('8', "eight"), reg('9', "nine")}
	for _, c := range []struct {
		name int
		s    string
		line bool
		want []api.Reg
	}{
		{0, "s", false, append([]api.Reg{reg('"', "s"), reg('-', "s")}, l...)},
		{'"', "", false, append([]api.Reg{reg('"', ""), reg('-', "")}, l...)},
		{'7', "s", true, []api.Reg{line('"', "s"), l[0], line('1', "s"), reg('2', "one"), line('3', "two"), reg('9', "eight")}},
		{0, "a\nb", false, []api.Reg{reg('"', "a\nb"), l[0], reg('1', "a\nb"), reg('2', "one"), line('3', "two"), reg('9', "eight")}},
		{'_', "a\nb", false, l},
		{'d', "a\nb", true, append(append([]api.Reg{line('"', "a\nb")}, l...), line('d', "a\nb"))},
		{'D', "s", false, append(append([]api.Reg{reg('"', "s")}, l...), reg('d', "s"))},
	} {
		old := slices.Clone(l)
		if x, e := Delete(l, c.name, c.s, c.line); !slices.Equal(x, c.want) || e != api.OK || !slices.Equal(l, old) {
			t.Errorf("%c: %v, %v", c.name, x, e)
		}
	}
	l = []api.Reg{reg('9', "nine")}
	if x, e := Delete(l, 0, "s", true); !slices.Equal(x, []api.Reg{line('"', "s"), line('1', "s")}) || e != api.OK {
		t.Error(x, e)
	}
}
