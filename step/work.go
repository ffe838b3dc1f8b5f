package step

import (
	"quill/api"
	"quill/marks"
	"quill/parse"
	"quill/patch"
	"quill/undo"
)

// A Deed is what a key did to the undo tree.
type Deed struct {
	Kind int
	Text string // of DeedCommit: what was committed, and the cursor ahead of it
	At   int
}

// Kinds of deeds.
const (
	DeedCommit = iota
	DeedBack
	DeedAgain
	DeedEarlier
	DeedLater
)

// work is what one key by hand comes to; of one that errs nothing is kept. No
// list of s is changed where it lies, so that one that was taken from it stays.
type work struct {
	s     api.State
	steps int
	deeds []Deed
}

// press does a key that is so deep within macros.
func (w *work) press(k int, depth int) api.Errno {
	w.steps++
	if w.steps > w.s.Conf.Steps {
		return api.ErrBudget
	}
	if w.s.Mode == api.ModeInsert {
		return w.inInsert(k)
	}
	keys := with(w.s.Pend, k)
	c, more, e := parse.Of(keys, w.s.Mode, w.s.Conf.Count, w.s.Rec != 0)
	if e != api.OK {
		return e
	}
	if more {
		w.s.Pend = keys
		return api.OK
	}
	w.s.Pend = nil
	if c.Key == '@' || c.Key == '.' {
		return w.play(c, depth+1)
	}
	return w.command(c, keys)
}

// with tells a copy of keys with one behind them.
func with(l []int, k int) []int {
	return append(l[:len(l):len(l)], k)
}

// command does a command, but one that plays keys: of that each key looks after itself.
func (w *work) command(c api.Cmd, keys []int) (e api.Errno) {
	was, cur := w.s.Text, w.s.Cur
	if w.s.Mode == api.ModeNormal {
		e = w.inNormal(c, keys)
	} else {
		e = w.inVisual(c)
	}
	if e == api.OK {
		e = w.changed(was)
	}
	if e != api.OK || w.s.Mode == api.ModeInsert {
		return e
	}
	return w.commit(cur)
}

// changed looks after a text that came in the place of another one.
func (w *work) changed(was string) api.Errno {
	if w.s.Text == was {
		return api.OK
	}
	if !Fits(w.s.Conf, w.s.Text) {
		return api.ErrFull
	}
	p, e := patch.Between(was, w.s.Text)
	if e != api.OK {
		return e
	}
	w.s.Marks, e = marks.Move(w.s.Marks, p)
	return e
}

// commit keeps a text that is new; cur is where the cursor was ahead of it.
func (w *work) commit(cur int) api.Errno {
	if w.s.Text == w.here() {
		return api.OK
	}
	t, e := undo.Commit(w.s.Undo, w.s.Text, cur, w.s.Conf.Nodes)
	if e != api.OK {
		return e
	}
	w.s.Undo = t
	w.deeds = append(w.deeds, Deed{Kind: DeedCommit, Text: w.s.Text, At: cur})
	return api.OK
}

// here tells the text of the undo tree's Cur.
func (w *work) here() string {
	for _, n := range w.s.Undo.Nodes {
		if n.Seq == w.s.Undo.Cur {
			return n.Text
		}
	}
	return ""
}

// apply puts a patch's text in the place of the editor's.
func (w *work) apply(p api.Patch) api.Errno {
	s, e := patch.Apply(w.s.Text, p)
	if e == api.OK {
		w.s.Text = s
	}
	return e
}
