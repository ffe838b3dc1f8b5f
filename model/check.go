package model

import (
	"quill/api"
	"quill/marks"
	"quill/parse"
	"quill/regs"
	"quill/seek"
	"quill/step"
	"quill/text"
	"quill/undo"
)

// Check tells whether an editor may be.
func Check(s api.State) api.Errno {
	if !mayConf(s.Conf) || !step.Fits(s.Conf, s.Text) || !mayCursor(s) || !mayKeep(s) {
		return api.ErrForm
	}
	if s.Mode == api.ModeInsert {
		if !mayInsert(s) {
			return api.ErrForm
		}
		return api.OK
	}
	if !mayPend(s) || !isHere(s, s.Text) || len(s.Typed) > 0 || s.Start != "" || s.Back != 0 {
		return api.ErrForm
	}
	return api.OK
}

func mayConf(c api.Conf) bool {
	return within(c.Bytes, 1, api.MaxBytes) && within(c.Count, 1, api.MaxCount) && within(c.Steps, 1, api.MaxSteps) &&
		within(c.Depth, 0, api.MaxDepth) && within(c.Nodes, 2, api.MaxNodes)
}

func within(n, low, high int) bool { return n >= low && n <= high }

// mayCursor tells of the mode, the cursor, and where it began.
func mayCursor(s api.State) bool {
	at, e := text.Rest(s.Text, s.Cur)
	if e != api.OK {
		return false
	}
	switch s.Mode {
	case api.ModeNormal:
		return s.From == 0 && at == s.Cur
	case api.ModeInsert:
		return s.From == 0
	case api.ModeVisual, api.ModeLines:
		return isOffset(s.Text, s.From)
	}
	return false
}

func isOffset(s string, at int) bool {
	n, _ := text.Len(s)
	return within(at, 0, n)
}

// mayKeep tells of what is kept in all modes.
func mayKeep(s api.State) bool {
	if regs.Check(s.Regs) != api.OK || marks.Check(s.Marks) != api.OK || undo.Check(s.Undo) != api.OK {
		return false
	}
	for _, m := range s.Marks {
		if !isOffset(s.Text, m.At) {
			return false
		}
	}
	_, e := seek.Turned(s.Seek.Kind)
	if e != api.OK && s.Seek != (api.Seek{}) {
		return false
	}
	if len(s.Dot) > api.MaxKeys || len(s.Keys) > api.MaxKeys {
		return false
	}
	if s.Rec == 0 {
		return len(s.Keys) == 0
	}
	return within(s.Rec, 'a', 'z')
}

// mayInsert tells of what only ModeInsert keeps.
func mayInsert(s api.State) bool {
	return len(s.Pend) == 0 && len(s.Typed) <= api.MaxKeys && step.Fits(s.Conf, s.Start) && isOffset(s.Start, s.Back) && isHere(s, s.Start)
}

func isHere(s api.State, want string) bool {
	here, _ := undo.Here(s.Undo)
	return here == want
}

// mayPend tells whether more must follow what is typed.
func mayPend(s api.State) bool {
	_, more, e := parse.Of(s.Pend, s.Mode, s.Conf.Count, s.Rec != 0)
	return e == api.OK && more
}
