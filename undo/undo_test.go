package undo

import (
	"slices"
	"strings"
	"testing"

	"quill/api"
)

func same(a, b api.Tree) bool { return a.Cur == b.Cur && slices.Equal(a.Nodes, b.Nodes) }

// sample: 0 > 1 > 2, 0 > 3 > 7.
func sample(cur int) api.Tree {
	return api.Tree{Cur: cur, Nodes: []api.Node{{Parent: -1, At: 9, Text: "r"}, {Seq: 1, At: 1, Text: "one"}, {Seq: 2, Parent: 1, At: 2, Text: "two"}, {Seq: 3, At: 3, Text: "three"}, {Seq: 7, Parent: 3, At: 4, Text: "seven"}}}
}

func node(seq, parent, at int, s string) api.Node {
	return api.Node{Seq: seq, Parent: parent, At: at, Text: s}
}

func wrong() []api.Tree {
	root := node(0, -1, 0, "")
	l := []api.Tree{{}, {Nodes: []api.Node{root}, Cur: 1}, {Nodes: []api.Node{root}, Cur: -1}}
	for _, nodes := range [][]api.Node{
		{node(1, -1, 0, "")}, {node(0, 0, 0, "")}, {node(0, -1, -1, "")}, {node(0, -1, api.MaxBytes+1, "")}, {node(0, -1, 0, "\xff")}, {node(0, -1, 0, strings.Repeat("x", api.MaxBytes+1))},
		{root, node(0, 0, 0, "")}, {root, node(1, -1, 0, "")}, {root, node(1, 1, 0, "")}, {root, node(1, 2, 0, ""), node(2, 0, 0, "")}, {root, node(2, 0, 0, ""), node(1, 0, 0, "")}, {root, node(api.MaxSeq+1, 0, 0, "")}, {root, node(1, 0, 0, "\x00")},
	} {
		l = append(l, api.Tree{Nodes: nodes})
	}
	many := []api.Node{root}
	for i := range api.MaxNodes {
		many = append(many, node(i+1, i, 0, ""))
	}
	return append(l, api.Tree{Nodes: many})
}

// P7.1
func TestCheckNewHere(t *testing.T) {
	x, e := New("äb\n")
	if !same(x, api.Tree{Nodes: []api.Node{node(0, -1, 0, "äb\n")}}) || e != api.OK {
		t.Error(x, e)
	}
	for _, s := range []string{"\xff", "\x00", strings.Repeat("x", api.MaxBytes+1)} {
		if x, e := New(s); x.Nodes != nil || e != api.ErrForm {
			t.Error(x, e)
		}
	}
	for _, cur := range []int{0, 1, 2, 3, 7} {
		s, e := Here(sample(cur))
		if Check(sample(cur)) != api.OK || e != api.OK || s != map[int]string{0: "r", 1: "one", 2: "two", 3: "three", 7: "seven"}[cur] {
			t.Error(cur, s, e)
		}
	}
	if e := Check(api.Tree{Nodes: []api.Node{node(0, -1, api.MaxBytes, ""), node(api.MaxSeq, 0, 0, "")}, Cur: api.MaxSeq}); e != api.OK {
		t.Error(e)
	}
	for i, x := range wrong() {
		s, e := Here(x)
		y, f := Commit(x, "", 0, 9)
		if Check(x) != api.ErrForm || s != "" || e != api.ErrForm || y.Nodes != nil || f != api.ErrForm {
			t.Error(i, e, f)
		}
		for _, go1 := range []func(api.Tree) (api.Tree, string, int, api.Errno){Back, Again, Earlier, Later, func(t api.Tree) (api.Tree, string, int, api.Errno) { return Jump(t, 0) }} {
			if y, s, at, e := go1(x); y.Nodes != nil || y.Cur != 0 || s != "" || at != 0 || e != api.ErrForm {
				t.Error(i, y, s, at, e)
			}
		}
	}
}

// P7.2
func TestCommit(t *testing.T) {
	x, e := Commit(sample(1), "new", 5, 64)
	want := sample(8)
	want.Nodes = append(want.Nodes, node(8, 1, 5, "new"))
	if !same(x, want) || e != api.OK {
		t.Error(x, e)
	}
	for most, l := range map[int][]api.Node{
		5: {node(0, -1, 9, "r"), node(1, 0, 1, "one"), node(3, 0, 3, "three"), node(7, 3, 4, "seven"), node(8, 1, 5, "new")},
		4: {node(0, -1, 9, "r"), node(1, 0, 1, "one"), node(3, 0, 3, "three"), node(8, 1, 5, "new")},
		3: {node(0, -1, 9, "r"), node(1, 0, 1, "one"), node(8, 1, 5, "new")},
		2: {node(0, -1, 1, "one"), node(8, 0, 5, "new")},
	} {
		if x, e := Commit(sample(1), "new", 5, most); !same(x, api.Tree{Nodes: l, Cur: 8}) || e != api.OK {
			t.Error(most, x, e)
		}
	}
	many := api.Tree{Nodes: []api.Node{node(0, -1, 0, "")}}
	for i := range api.MaxNodes - 1 {
		many.Nodes = append(many.Nodes, node(i+1, i, 0, ""))
	}
	if x, e := Commit(many, "", api.MaxBytes, api.MaxNodes); len(x.Nodes) != api.MaxNodes || x.Nodes[63] != node(64, 0, api.MaxBytes, "") || x.Nodes[62].Seq != 62 || e != api.OK {
		t.Error(x, e)
	}
	full := api.Tree{Nodes: []api.Node{node(0, -1, 0, ""), node(api.MaxSeq, 0, 0, "")}}
	if x, e := Commit(full, "", 0, 9); x.Nodes != nil || e != api.ErrFull {
		t.Error(x, e)
	}
	for i, e := range []api.Errno{
		errno(Commit(full, "\xff", 0, 9)), errno(Commit(full, "", -1, 9)), errno(Commit(full, "", api.MaxBytes+1, 9)), errno(Commit(full, "", 0, 1)), errno(Commit(full, "", 0, api.MaxNodes+1)),
	} {
		if e != api.ErrForm {
			t.Error(i, e)
		}
	}
	if !same(sample(1), sample(1)) {
		t.Error("changed")
	}
}

func errno(x api.Tree, e api.Errno) api.Errno { return e }

// P7.2: a long way
func TestCommitMany(t *testing.T) {
	x, _ := New("")
	for i := range 200 {
		old := api.Tree{Nodes: slices.Clone(x.Nodes), Cur: x.Cur}
		y, e := Commit(x, strings.Repeat("x", i%7), i, 5)
		if e != api.OK || Check(y) != api.OK || len(y.Nodes) > 5 || !same(x, old) {
			t.Fatal(i, e, y)
		}
		x = y
		if i%3 == 0 {
			x, _, _, _ = Back(x)
		}
	}
	if last := x.Nodes[len(x.Nodes)-1].Seq; last != 200 {
		t.Error(last)
	}
}

// P7.3, P7.4
func TestWays(t *testing.T) {
	type way struct {
		cur  int
		name string
		to   int
		s    string
		at   int
		e    api.Errno
	}
	for _, w := range []way{
		{0, "back", 0, "", 0, api.ErrMove}, {1, "back", 0, "r", 1, 0}, {2, "back", 1, "one", 2, 0}, {7, "back", 3, "three", 4, 0},
		{0, "again", 3, "three", 3, 0}, {1, "again", 2, "two", 2, 0}, {2, "again", 0, "", 0, api.ErrMove}, {7, "again", 0, "", 0, api.ErrMove},
		{0, "earlier", 0, "", 0, api.ErrMove}, {7, "earlier", 3, "three", 3, 0}, {1, "earlier", 0, "r", 9, 0},
		{7, "later", 0, "", 0, api.ErrMove}, {3, "later", 7, "seven", 4, 0}, {2, "later", 3, "three", 3, 0},
		{2, "jump", 7, "seven", 4, 0}, {7, "jump", 7, "seven", 4, 0},
	} {
		old := sample(w.cur)
		var x api.Tree
		var s string
		var at int
		var e api.Errno
		switch w.name {
		case "back":
			x, s, at, e = Back(old)
		case "again":
			x, s, at, e = Again(old)
		case "earlier":
			x, s, at, e = Earlier(old)
		case "later":
			x, s, at, e = Later(old)
		case "jump":
			x, s, at, e = Jump(old, w.to)
		}
		want := sample(w.to)
		if w.e != api.OK {
			want = api.Tree{}
		}
		if !same(x, want) || s != w.s || at != w.at || e != w.e || !same(old, sample(w.cur)) {
			t.Error(w, x, s, at, e)
		}
		if e == api.OK {
			x.Nodes[0].Text = "?"
			if old.Nodes[0].Text != "r" {
				t.Error("shared")
			}
		}
	}
	for _, seq := range []int{-1, 4, 8, 1 << 62} {
		if x, s, at, e := Jump(sample(0), seq); x.Nodes != nil || s != "" || at != 0 || e != api.ErrNone {
			t.Error(seq, e)
		}
	}
	for _, cur := range []int{3, 7, 2} {
		x, _, _, _ := Back(sample(cur))
		if y, _, _, e := Again(x); !same(y, sample(cur)) || e != api.OK {
			t.Error(cur, y, e)
		}
	}
}
