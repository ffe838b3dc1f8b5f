// Package text: texts, rows, places: see ../../shared/doc/01-text.md.
package text

import (
	"strings"
	"unicode/utf8"

	"quill/api"
)

// Check tells whether a text may be.
func Check(s string) api.Errno {
	if len(s) > api.MaxBytes || !utf8.ValidString(s) || hasStray(s) {
		return api.ErrForm
	}
	return api.OK
}

// Len tells how many runes a text has.
func Len(s string) (int, api.Errno) {
	if e := Check(s); e != api.OK {
		return 0, e
	}
	return utf8.RuneCountInString(s), api.OK
}

// Rows tells what stands between a text's newlines.
func Rows(s string) ([]string, api.Errno) {
	if e := Check(s); e != api.OK {
		return nil, e
	}
	l := make([]string, 0, strings.Count(s, "\n")+1)
	for _, row := range strings.Split(s, "\n") {
		l = append(l, strings.Clone(row))
	}
	return l, api.OK
}

// Join makes a text of rows.
func Join(l []string) (string, api.Errno) {
	if len(l) == 0 || len(l) > api.MaxBytes+1 {
		return "", api.ErrForm
	}
	size := len(l) - 1
	for _, row := range l {
		size += len(row)
		if size > api.MaxBytes || !isRow(row) || !utf8.ValidString(row) {
			return "", api.ErrForm
		}
	}
	return strings.Clone(strings.Join(l, "\n")), api.OK
}

// Place tells the row and the column of an offset.
func Place(s string, at int) (api.Pos, api.Errno) {
	if e := Check(s); e != api.OK {
		return api.Pos{}, e
	}
	var p api.Pos
	n := 0
	for _, r := range s {
		if n == at {
			return p, api.OK
		}
		n++
		p.Col++
		if r == '\n' {
			p = api.Pos{Row: p.Row + 1}
		}
	}
	if n != at {
		return api.Pos{}, api.ErrNone
	}
	return p, api.OK
}

// Offset tells the offset of a place.
func Offset(s string, p api.Pos) (int, api.Errno) {
	if e := Check(s); e != api.OK {
		return 0, e
	}
	ahead := 0
	for row, line := range strings.Split(s, "\n") {
		n := utf8.RuneCountInString(line)
		if row == p.Row {
			if p.Col < 0 || p.Col > n {
				return 0, api.ErrNone
			}
			return ahead + p.Col, api.OK
		}
		ahead += n + 1
	}
	return 0, api.ErrNone
}

// Cut tells the piece of a text from an offset up to another one.
func Cut(s string, low int, high int) (string, api.Errno) {
	if e := Check(s); e != api.OK {
		return "", e
	}
	if low < 0 || low > high {
		return "", api.ErrNone
	}
	from, ok := byteOf(s, low)
	if !ok {
		return "", api.ErrNone
	}
	n, ok := byteOf(s[from:], high-low)
	if !ok {
		return "", api.ErrNone
	}
	return strings.Clone(s[from : from+n]), api.OK
}

// Rest tells where normal mode's cursor stands.
func Rest(s string, at int) (int, api.Errno) {
	p, e := Place(s, at)
	if e != api.OK {
		return 0, e
	}
	i, _ := byteOf(s, at)
	if p.Col > 0 && (i == len(s) || s[i] == '\n') {
		return at - 1, api.OK
	}
	return at, api.OK
}

// byteOf tells how many bytes the first at runes have.
func byteOf(s string, at int) (int, bool) {
	n := 0
	for i := range s {
		if n == at {
			return i, true
		}
		n++
	}
	return len(s), n == at
}
