package step

import (
	"strings"

	"quill/api"
	"quill/move"
	"quill/object"
	"quill/region"
	"quill/text"
)

// inVisual does a command in ModeVisual or ModeLines.
func (w *work) inVisual(c api.Cmd) api.Errno {
	if c.Wide != 0 {
		return w.choose(c)
	}
	if move.Is(c.Key) {
		return w.motion(c)
	}
	switch c.Key {
	case keyEsc:
		rest(&w.s)
	case 'o':
		w.s.From, w.s.Cur = w.s.Cur, w.s.From
	case 'v':
		w.toggle(api.ModeVisual)
	case 'V':
		w.toggle(api.ModeLines)
	default:
		return w.onChosen(c)
	}
	return api.OK
}

// toggle leads to a mode, or, from that one, to ModeNormal.
func (w *work) toggle(mode int) {
	if w.s.Mode == mode {
		rest(&w.s)
	} else {
		w.s.Mode = mode
	}
}

// choose takes an object as what is chosen.
func (w *work) choose(c api.Cmd) api.Errno {
	r, e := object.Piece(w.s.Text, w.s.Cur, c.Wide, c.Key, max(c.Count, 1))
	if e != api.OK {
		return e
	}
	if r.Low == r.High {
		return api.ErrMove
	}
	w.s.Mode = api.ModeVisual
	if r.Line {
		w.s.Mode = api.ModeLines
	}
	w.s.From = r.Low
	w.s.Cur, e = text.Rest(w.s.Text, r.High-1)
	return e
}

// onChosen does a command on what is chosen.
func (w *work) onChosen(c api.Cmd) api.Errno {
	kind := api.KindOn
	if w.s.Mode == api.ModeLines {
		kind = api.KindRows
	}
	r, e := region.Between(w.s.Text, w.s.From, w.s.Cur, kind)
	if e != api.OK {
		return e
	}
	w.s.Mode, w.s.From = api.ModeNormal, 0
	if c.Key == 'J' {
		return w.joinRows(r)
	}
	return w.change(r, operOf(c.Key), c.Reg, nil)
}

// operOf tells the operator that a key means in ModeVisual and ModeLines.
func operOf(key int) int {
	switch key {
	case 'x':
		return 'd'
	case 's':
		return 'c'
	case 'u', 'U', '~':
		return api.OpG + key
	}
	return key
}

// joinRows does J with a range's rows.
func (w *work) joinRows(r api.Range) api.Errno {
	s, e := text.Cut(w.s.Text, r.Low, r.High)
	if e != api.OK {
		return e
	}
	rows := strings.Count(s, "\n") + 1
	return w.small(api.Cmd{Key: 'J'}, r.Low, min(max(rows, 2), api.MaxCount))
}
