package step

import (
	"quill/api"
	"quill/change"
	"quill/marks"
	"quill/move"
	"quill/put"
	"quill/region"
	"quill/regs"
	"quill/small"
	"quill/spot"
	"quill/text"
)

// inNormal does a command in ModeNormal.
func (w *work) inNormal(c api.Cmd, keys []int) (e api.Errno) {
	n := max(c.Count, 1)
	if c.Oper == 0 && move.Is(c.Key) {
		return w.motion(c)
	}
	if c.Oper != 0 {
		e = w.operate(c, keys)
	} else {
		switch c.Key {
		case 'x', 'X', 'r', '~', 'J':
			e = w.small(c, w.s.Cur, n)
		case 'p', 'P':
			e = w.put(c, n)
		case 's':
			e = w.substitute(c, n, keys)
		case 'S':
			e = w.operate(api.Cmd{Reg: c.Reg, Count: c.Count, Oper: 'c', Key: 'c'}, keys)
		case 'Y':
			e = w.operate(api.Cmd{Reg: c.Reg, Count: c.Count, Oper: 'y', Key: 'y'}, keys)
		case 'D':
			e = w.operate(api.Cmd{Reg: c.Reg, Count: c.Count, Oper: 'd', Key: '$'}, keys)
		case 'C':
			e = w.operate(api.Cmd{Reg: c.Reg, Count: c.Count, Oper: 'c', Key: '$'}, keys)
		default:
			return w.other(c, n, keys)
		}
	}
	// what leads into insert ends with it, and Dot is its business then
	if e == api.OK && w.s.Mode != api.ModeInsert && c.Oper != 'y' && c.Key != 'Y' {
		w.s.Dot = keys
	}
	return e
}

// other does a command that "." does not play, or insert does that itself.
func (w *work) other(c api.Cmd, n int, keys []int) (e api.Errno) {
	switch c.Key {
	case 'i', 'a', 'I', 'A', 'o', 'O':
		return w.open(c.Key, keys)
	case 'u', keyRedo, api.OpG + '-', api.OpG + '+':
		return w.travel(c.Key, n)
	case 'm':
		w.s.Marks, e = marks.Set(w.s.Marks, c.Rune, w.s.Cur)
	case 'v':
		w.s.Mode, w.s.From = api.ModeVisual, w.s.Cur
	case 'V':
		w.s.Mode, w.s.From = api.ModeLines, w.s.Cur
	case 'q':
		return w.recorded(c.Rune)
	}
	return e
}

// motion leads the cursor to a motion's target.
func (w *work) motion(c api.Cmd) api.Errno {
	t, x, e := move.Go(w.s.Text, w.s.Cur, c, w.s.Seek, w.s.Marks)
	if e != api.OK {
		return e
	}
	w.s.Seek = x
	w.s.Cur, e = text.Rest(w.s.Text, t.At)
	return e
}

// operate does an operator with what its command tells.
func (w *work) operate(c api.Cmd, keys []int) api.Errno {
	r, x, e := region.Of(w.s.Text, w.s.Cur, c, w.s.Seek, w.s.Marks)
	if e != api.OK {
		return e
	}
	w.s.Seek = x
	return w.change(r, c.Oper, c.Reg, keys)
}

// substitute does s.
func (w *work) substitute(c api.Cmd, n int, keys []int) api.Errno {
	_, high := spot.Row([]rune(w.s.Text), w.s.Cur)
	r := api.Range{Low: w.s.Cur, High: min(w.s.Cur+n, high)}
	return w.change(r, 'c', c.Reg, keys)
}

// change does an operator on a range; keys are what insert begins with.
func (w *work) change(r api.Range, oper, reg int, keys []int) api.Errno {
	c, e := change.Of(w.s.Text, r, oper, w.s.Cur)
	if e != api.OK {
		return e
	}
	switch oper {
	case 'y':
		w.s.Regs, e = regs.Yank(w.s.Regs, reg, c.Took, c.Line)
	case 'd', 'c':
		w.s.Regs, e = regs.Delete(w.s.Regs, reg, c.Took, c.Line)
	}
	if e != api.OK {
		return e
	}
	if oper == 'c' {
		w.insert(keys)
		w.s.Cur = c.At
		return w.apply(c.Patch)
	}
	return w.become(c)
}

// become takes a change's text, and its cursor at rest.
func (w *work) become(c api.Change) api.Errno {
	if e := w.apply(c.Patch); e != api.OK {
		return e
	}
	at, e := text.Rest(w.s.Text, c.At)
	w.s.Cur = at
	return e
}

// small does a command of single runes at an offset.
func (w *work) small(c api.Cmd, at, n int) api.Errno {
	x, e := small.Of(w.s.Text, at, c.Key, c.Rune, n)
	if e != api.OK {
		return e
	}
	if c.Key == 'x' || c.Key == 'X' {
		if w.s.Regs, e = regs.Delete(w.s.Regs, c.Reg, x.Took, false); e != api.OK {
			return e
		}
	}
	return w.become(x)
}

// put does p and P.
func (w *work) put(c api.Cmd, n int) api.Errno {
	r, e := regs.Get(w.s.Regs, c.Reg)
	if e != api.OK {
		return e
	}
	x, e := put.Of(w.s.Text, w.s.Cur, r, c.Key, n)
	if e != api.OK {
		return e
	}
	return w.become(x)
}
