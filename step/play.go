package step

import (
	"quill/api"
	"quill/regs"
	"quill/spot"
	"quill/text"
	"quill/undo"
)

// play does the keys of a register, or of the last change, so deep within macros.
func (w *work) play(c api.Cmd, depth int) api.Errno {
	if depth > w.s.Conf.Depth {
		return api.ErrLimit
	}
	if c.Key == '.' {
		if len(w.s.Dot) == 0 {
			return api.ErrReg
		}
		return w.pressAll(w.s.Dot, depth)
	}
	r, e := regs.Get(w.s.Regs, c.Rune)
	if e != api.OK {
		return e
	}
	var keys []int
	for _, k := range r.Text {
		keys = append(keys, int(k))
	}
	for range max(c.Count, 1) {
		if e := w.pressAll(keys, depth); e != api.OK {
			return e
		}
	}
	return api.OK
}

func (w *work) pressAll(keys []int, depth int) api.Errno {
	for _, k := range keys {
		if e := w.press(k, depth); e != api.OK {
			return e
		}
	}
	return api.OK
}

// recorded begins to record a macro, or ends that.
func (w *work) recorded(name int) (e api.Errno) {
	if w.s.Rec == 0 {
		w.s.Rec, w.s.Keys = name, nil
		return api.OK
	}
	var l []rune
	for _, k := range w.s.Keys {
		if spot.IsRune(k) {
			l = append(l, rune(k))
		}
	}
	w.s.Regs, e = regs.Yank(w.s.Regs, w.s.Rec, string(l), false)
	w.s.Rec, w.s.Keys = 0, nil
	return e
}

// travel goes through the undo tree, so many times.
func (w *work) travel(key, n int) api.Errno {
	t, s, at, kind := w.s.Undo, "", 0, DeedBack
	for range n {
		var e api.Errno
		switch key {
		case 'u':
			t, s, at, e = undo.Back(t)
		case keyRedo:
			kind = DeedAgain
			t, s, at, e = undo.Again(t)
		case api.OpG + '-':
			kind = DeedEarlier
			t, s, at, e = undo.Earlier(t)
		default:
			kind = DeedLater
			t, s, at, e = undo.Later(t)
		}
		if e != api.OK {
			return e
		}
		w.deeds = append(w.deeds, Deed{Kind: kind})
	}
	size, e := text.Len(s)
	if e != api.OK {
		return e
	}
	w.s.Undo, w.s.Text = t, s
	w.s.Cur, e = text.Rest(s, min(at, size))
	return e
}
