package history

import (
	"slices"
	"strings"
	"testing"

	"quill/api"
	"quill/undo"
)

func same(a, b api.Tree) bool { return a.Cur == b.Cur && slices.Equal(a.Nodes, b.Nodes) }

// P8.1
func TestNew(t *testing.T) {
	h, e := New(2, "äb")
	want, _ := undo.New("äb")
	if e != api.OK || h.Here() != "äb" || !same(h.Tree(), want) || h.Patches() != 0 {
		t.Error(e, h.Tree())
	}
	h.Tree().Nodes[0].Text = "?"
	if !same(h.Tree(), want) {
		t.Error("shared")
	}
	for _, most := range []int{-1, 0, 1, api.MaxNodes + 1} {
		if h, e := New(most, ""); h != nil || e != api.ErrForm {
			t.Error(most, e)
		}
	}
	for _, s := range []string{"\xff", "\x00", strings.Repeat("x", api.MaxBytes+1)} {
		if h, e := New(2, s); h != nil || e != api.ErrForm {
			t.Error(e)
		}
	}
}

// P8.2: errors change nothing
func TestErrors(t *testing.T) {
	h, _ := New(9, "a")
	if e := h.Commit("b", 1); e != api.OK {
		t.Fatal(e)
	}
	was := h.Tree()
	for i, e := range []api.Errno{h.Commit("\xff", 0), h.Commit("x", -1), h.Commit("x", api.MaxBytes+1), h.Commit(strings.Repeat("x", api.MaxBytes+1), 0)} {
		if e != api.ErrForm {
			t.Error(i, e)
		}
	}
	for i, go1 := range []func() (string, int, api.Errno){h.Again, h.Later, func() (string, int, api.Errno) { return h.Jump(2) }, func() (string, int, api.Errno) { return h.Jump(-1) }} {
		want := api.ErrMove
		if i >= 2 {
			want = api.ErrNone
		}
		if s, at, e := go1(); s != "" || at != 0 || e != want {
			t.Error(i, s, at, e)
		}
	}
	if !same(h.Tree(), was) || h.Patches() != 0 || h.Here() != "b" {
		t.Error(h.Tree())
	}
	if s, at, e := h.Back(); s != "a" || at != 1 || e != api.OK {
		t.Error(s, at, e)
	}
	if s, at, e := h.Back(); s != "" || at != 0 || e != api.ErrMove {
		t.Error(s, at, e)
	}
	if s, at, e := h.Earlier(); s != "" || at != 0 || e != api.ErrMove || h.Patches() != 1 {
		t.Error(s, at, e)
	}
}

// P8.1: how many patches
func TestPatches(t *testing.T) {
	h, _ := New(64, "")
	for _, s := range []string{"1", "12", "123"} {
		h.Commit(s, 0)
	}
	h.Jump(1)
	h.Commit("1a", 0) // 0 > 1 > 2 > 3, 1 > 4
	for _, c := range []struct {
		seq, all int
		s        string
	}{{4, 2, "1a"}, {3, 5, "123"}, {0, 8, ""}, {4, 10, "1a"}, {1, 11, "1"}} {
		if s, _, e := h.Jump(c.seq); s != c.s || e != api.OK || h.Patches() != c.all {
			t.Error(c, s, e, h.Patches())
		}
	}
	if s, _, _ := h.Later(); s != "12" || h.Patches() != 12 {
		t.Error(s, h.Patches())
	}
	h.Later()
	if s, _, _ := h.Later(); s != "1a" || h.Patches() != 16 {
		t.Error(s, h.Patches())
	}
}

// P8.2, P8.3: as undo, call by call
func TestAsUndo(t *testing.T) {
	texts := []string{"", "a", "äb\nc", "世界\n\nxyz", "abc", "\n", strings.Repeat("z", 50)}
	for most := 2; most < 9; most++ {
		h, _ := New(most, "begin")
		x, _ := undo.New("begin")
		seed := most
		for range 1000 {
			seed = seed * 48271 % 0x7fffffff
			var y api.Tree
			var s, s2 string
			var at, at2 int
			var e, e2 api.Errno
			switch k := seed / 7 % 9; k {
			case 0:
				y, s, at, e = undo.Back(x)
				s2, at2, e2 = h.Back()
			case 1:
				y, s, at, e = undo.Again(x)
				s2, at2, e2 = h.Again()
			case 2:
				y, s, at, e = undo.Earlier(x)
				s2, at2, e2 = h.Earlier()
			case 3:
				y, s, at, e = undo.Later(x)
				s2, at2, e2 = h.Later()
			case 4:
				seq := x.Nodes[seed/101%len(x.Nodes)].Seq + seed/3%2
				y, s, at, e = undo.Jump(x, seq)
				s2, at2, e2 = h.Jump(seq)
			default:
				now := texts[seed/31%len(texts)]
				y, e = undo.Commit(x, now, seed%20, most)
				e2 = h.Commit(now, seed%20)
			}
			if s != s2 || at != at2 || e != e2 {
				t.Fatal(s, at, e, s2, at2, e2)
			}
			if e == api.OK {
				x = y
			}
			if here, _ := undo.Here(x); !same(h.Tree(), x) || h.Here() != here || len(h.links) != len(x.Nodes)-1 {
				t.Fatal(h.Tree(), x)
			}
		}
	}
}
