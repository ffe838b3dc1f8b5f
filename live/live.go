// Package live: an editor whose text is a buffer, and whose undo tree is a
// history: what engine and site have in common.
package live

import (
	"quill/api"
	"quill/buffer"
	"quill/history"
	"quill/marks"
	"quill/model"
	"quill/own"
	"quill/patch"
	"quill/step"
	"quill/text"
)

// Editor is one. A nil one has the zero state, and takes nothing.
type Editor struct {
	rest   api.State // all but Text and Undo
	buffer *buffer.Buffer
	undo   *history.History
}

// New makes an editor at rest.
func New(c api.Conf, s string) (*Editor, api.Errno) {
	x, e := model.New(c, s)
	if e != api.OK {
		return nil, e
	}
	b, e := buffer.New(c.Bytes, s)
	if e != api.OK {
		return nil, e
	}
	h, e := history.New(c.Nodes, s)
	if e != api.OK {
		return nil, e
	}
	ed := &Editor{buffer: b, undo: h}
	ed.keep(x)
	return ed, api.OK
}

// keep takes all of an editor but its text and its undo tree.
func (ed *Editor) keep(s api.State) {
	s.Text, s.Undo = "", api.Tree{}
	ed.rest = s
}

// Text tells the text.
func (ed *Editor) Text() string {
	if ed == nil {
		return ""
	}
	return ed.buffer.Text()
}

// State tells a copy of all.
func (ed *Editor) State() api.State {
	if ed == nil {
		return api.State{}
	}
	s := own.State(ed.rest)
	s.Text, s.Undo = ed.buffer.Text(), ed.undo.Tree()
	return s
}

// Busy tells whether a change from outside must wait.
func (ed *Editor) Busy() bool {
	return ed == nil || ed.rest.Mode != api.ModeNormal || len(ed.rest.Pend) > 0
}

// Key does a key. If it changes the text, allow (that may be nil) is asked: a
// key that it does not allow errs so, and leaves what an error leaves.
func (ed *Editor) Key(k int, allow func(p api.Patch) api.Errno) api.Errno {
	if ed == nil {
		return api.ErrForm
	}
	was := ed.State()
	x, deeds := step.Key(was, k)
	if x.Text != was.Text {
		p, e := patch.Between(was.Text, x.Text)
		if e == api.OK && allow != nil {
			e = allow(p)
		}
		if e == api.OK {
			_, e = ed.buffer.Apply(p)
		}
		if e != api.OK {
			x, deeds = step.Fail(was, k, e), nil
		}
	}
	ed.follow(deeds)
	ed.keep(x)
	return api.Errno(x.Err)
}

// follow does to the history what a key did to the undo tree.
func (ed *Editor) follow(l []step.Deed) {
	for _, d := range l {
		switch d.Kind {
		case step.DeedCommit:
			ed.undo.Commit(d.Text, d.At)
		case step.DeedBack:
			ed.undo.Back()
		case step.DeedAgain:
			ed.undo.Again()
		case step.DeedEarlier:
			ed.undo.Earlier()
		case step.DeedLater:
			ed.undo.Later()
		}
	}
}

// Patch does a change from outside.
func (ed *Editor) Patch(p api.Patch) api.Errno {
	if ed.Busy() {
		return api.ErrBusy
	}
	s, e := patch.Apply(ed.Text(), p)
	if e != api.OK {
		return e
	}
	if !step.Fits(ed.rest.Conf, s) {
		return api.ErrFull
	}
	l, e := marks.Move(ed.rest.Marks, p)
	if e != api.OK {
		return e
	}
	at, e := patch.Shift(p, ed.rest.Cur)
	if e != api.OK {
		return e
	}
	h, e := history.New(ed.rest.Conf.Nodes, s)
	if e != api.OK {
		return e
	}
	if _, e := ed.buffer.Apply(p); e != api.OK {
		return e
	}
	ed.rest.Marks, ed.undo = l, h
	ed.rest.Cur, _ = text.Rest(s, at)
	return api.OK
}
