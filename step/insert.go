package step

import (
	"quill/api"
	"quill/spot"
)

const (
	keyBack   = 8
	keyDelete = 127
)

// insert leads to ModeInsert, ahead of what its command changes.
func (w *work) insert(keys []int) {
	w.s.Mode, w.s.From = api.ModeInsert, 0
	w.s.Start, w.s.Back, w.s.Typed = w.s.Text, w.s.Cur, keys
}

// open does the commands that begin to insert.
func (w *work) open(key int, keys []int) api.Errno {
	w.insert(keys)
	r := []rune(w.s.Text)
	low, high := spot.Row(r, w.s.Cur)
	switch key {
	case 'a':
		w.s.Cur = min(w.s.Cur+1, high)
	case 'I':
		w.s.Cur = spot.First(r, w.s.Cur)
	case 'A':
		w.s.Cur = high
	case 'o':
		w.s.Cur = high + 1
		return w.apply(api.Patch{At: high, Ins: "\n"})
	case 'O':
		w.s.Cur = low
		return w.apply(api.Patch{At: low, Ins: "\n"})
	}
	return api.OK
}

// inInsert does a key in ModeInsert.
func (w *work) inInsert(k int) (e api.Errno) {
	was := w.s.Text
	switch {
	case k == keyEsc:
		return w.inserted()
	case k == keyBack || k == keyDelete:
		if w.s.Cur == 0 {
			return api.ErrMove
		}
		w.s.Cur--
		e = w.apply(api.Patch{At: w.s.Cur, Del: 1})
	case spot.IsRune(k) && (k >= 32 || k == '\t' || k == '\n'):
		e = w.apply(api.Patch{At: w.s.Cur, Ins: string(rune(k))})
		w.s.Cur++
	default:
		return api.ErrKey
	}
	if e != api.OK {
		return e
	}
	if n := len(w.s.Typed); n > 0 && n < api.MaxKeys {
		w.s.Typed = with(w.s.Typed, k)
	}
	return w.changed(was)
}

// inserted ends ModeInsert.
func (w *work) inserted() api.Errno {
	if low, _ := spot.Row([]rune(w.s.Text), w.s.Cur); w.s.Cur > low {
		w.s.Cur--
	}
	back, typed := w.s.Back, w.s.Typed
	w.s.Mode, w.s.From = api.ModeNormal, 0
	w.s.Start, w.s.Back, w.s.Typed = "", 0, nil
	if n := len(typed); n > 0 && n < api.MaxKeys {
		w.s.Dot = with(typed, keyEsc)
	}
	return w.commit(back)
}
