package lower

import (
	"slices"

	"quill/api"
)

// work is a site to which ops are done as they are made. Each ID that it makes
// is greater than all others, so an insert stands right behind its After.
type work struct {
	y   api.Site
	ops []api.Op
}

// add makes the next op.
func (w *work) add(o api.Op) {
	o.Site = w.y.Site
	o.Seen = slices.Clone(w.y.Seen)
	w.y.Seen[w.y.Site-1]++
	o.N = w.y.Seen[w.y.Site-1]
	w.ops = append(w.ops, o)
}

// remove deletes n elements from low on that are not dead.
func (w *work) remove(low, n int) {
	for i := low; n > 0; i++ {
		d := &w.y.Doc[i]
		if d.Dead {
			continue
		}
		w.y.Clock++
		w.add(api.Op{Kind: api.OpDelete, ID: d.ID})
		d.Dead = true
		n--
	}
}

// insert puts elements behind the one at after; -1: at the begin.
func (w *work) insert(after int, s string) {
	var id api.ID
	if after >= 0 {
		id = w.y.Doc[after].ID
	}
	var come []api.Elem
	for _, r := range s {
		w.y.Clock++
		next := api.ID{Time: w.y.Clock, Site: w.y.Site}
		w.add(api.Op{Kind: api.OpInsert, ID: next, After: id, Rune: int(r)})
		come = append(come, api.Elem{ID: next, Rune: int(r)})
		id = next
	}
	w.y.Doc = slices.Insert(w.y.Doc, after+1, come...)
}
