package undo

import (
	"slices"

	"quill/api"
	"quill/text"
)

// Commit adds a text behind Cur, and prunes the tree to at most so many nodes.
func Commit(t api.Tree, s string, at int, most int) (api.Tree, api.Errno) {
	if Check(t) != api.OK || text.Check(s) != api.OK || at < 0 || at > api.MaxBytes || most < 2 || most > api.MaxNodes {
		return api.Tree{}, api.ErrForm
	}
	last := t.Nodes[len(t.Nodes)-1].Seq
	if last == api.MaxSeq {
		return api.Tree{}, api.ErrFull
	}
	l := make([]api.Node, 0, len(t.Nodes)+1)
	l = append(append(l, t.Nodes...), api.Node{Seq: last + 1, Parent: t.Cur, At: at, Text: s})
	x := api.Tree{Nodes: l, Cur: last + 1}
	for len(x.Nodes) > most {
		prune(&x)
	}
	return x, api.OK
}

// prune takes one node away.
func prune(t *api.Tree) {
	if i := eldestLeaf(*t); i > 0 {
		t.Nodes = slices.Delete(t.Nodes, i, i+1)
	} else {
		dropRoot(t)
	}
}

// eldestLeaf tells where the leaf with the least Seq stands that is neither Cur nor the root; 0: there is none.
func eldestLeaf(t api.Tree) int {
	for i := 1; i < len(t.Nodes); i++ {
		seq := t.Nodes[i].Seq
		child := func(n api.Node) bool { return n.Parent == seq }
		if seq != t.Cur && !slices.ContainsFunc(t.Nodes[i+1:], child) {
			return i
		}
	}
	return 0
}

// dropRoot makes the root's only child the root.
func dropRoot(t *api.Tree) {
	t.Nodes = slices.Delete(t.Nodes, 0, 1)
	was := t.Nodes[0].Seq
	t.Nodes[0].Seq, t.Nodes[0].Parent = 0, -1
	for i := range t.Nodes {
		if t.Nodes[i].Parent == was {
			t.Nodes[i].Parent = 0
		}
	}
	if t.Cur == was {
		t.Cur = 0
	}
}
