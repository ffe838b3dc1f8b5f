// Package own: copies that have no list in common with what they are of.
package own

import (
	"slices"

	"quill/api"
)

// State tells a copy of an editor.
func State(s api.State) api.State {
	s.Pend = slices.Clone(s.Pend)
	s.Regs = slices.Clone(s.Regs)
	s.Marks = slices.Clone(s.Marks)
	s.Dot = slices.Clone(s.Dot)
	s.Typed = slices.Clone(s.Typed)
	s.Keys = slices.Clone(s.Keys)
	s.Undo.Nodes = slices.Clone(s.Undo.Nodes)
	return s
}

// Ops tells a copy of ops. Their vectors are pieces of one list, with no spare
// room, as there are many of them.
func Ops(l []api.Op) []api.Op {
	n := 0
	for _, o := range l {
		n += len(o.Seen)
	}
	seen := make([]int, 0, n)
	x := slices.Clone(l)
	for i, o := range l {
		from := len(seen)
		seen = append(seen, o.Seen...)
		x[i].Seen = seen[from:len(seen):len(seen)]
	}
	return x
}

// Site tells a copy of a site.
func Site(x api.Site) api.Site {
	x.Doc = slices.Clone(x.Doc)
	x.Seen = slices.Clone(x.Seen)
	x.Wait = Ops(x.Wait)
	x.Log = Ops(x.Log)
	return x
}
