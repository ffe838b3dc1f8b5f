// Package step: what a key does to an editor: layers 22 and 23 have this in common.
package step

import (
	"unicode/utf8"

	"quill/api"
	"quill/own"
	"quill/spot"
	"quill/text"
)

const (
	keyEsc  = 27
	keyRedo = 18
)

// Key tells an editor (one that may be) behind a key by hand, and what was done
// to its undo tree, in order.
func Key(s api.State, k int) (api.State, []Deed) {
	w := work{s: own.State(s)}
	w.s.Err = 0
	if e := w.press(k, 0); e != api.OK {
		return Fail(s, k, e), nil
	}
	record(&w.s, s.Rec, k)
	return w.s, w.deeds
}

// Fail tells an editor as an error by hand leaves it.
func Fail(s api.State, k int, e api.Errno) api.State {
	x := own.State(s)
	x.Err = int(e)
	x.Pend = nil
	if x.Mode == api.ModeVisual || x.Mode == api.ModeLines {
		rest(&x)
	}
	record(&x, s.Rec, k)
	return x
}

// record puts a key by hand behind a macro's, if one is recorded as it was ahead of the key.
func record(s *api.State, was int, k int) {
	if was != 0 && s.Rec != 0 && spot.IsRune(k) && len(s.Keys) < api.MaxKeys {
		s.Keys = append(s.Keys, k)
	}
}

// rest leads to ModeNormal.
func rest(s *api.State) {
	s.Mode, s.From = api.ModeNormal, 0
	s.Cur, _ = text.Rest(s.Text, s.Cur)
}

// Fits tells whether a text is one that an editor of these limits may have.
func Fits(c api.Conf, s string) bool {
	l, e := text.Rows(s)
	if e != api.OK || len(s) > c.Bytes || len(l) > api.MaxRows {
		return false
	}
	for _, row := range l {
		if utf8.RuneCountInString(row) > api.MaxGap {
			return false
		}
	}
	return true
}
