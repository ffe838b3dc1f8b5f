package buffer

import (
	"strings"
	"unicode/utf8"

	"quill/api"
	"quill/gap"
	"quill/text"
)

// Apply changes the text, and tells the patch that undoes that.
func (b *Buffer) Apply(p api.Patch) (api.Patch, api.Errno) {
	low, e := b.Place(p.At)
	if e != api.OK || p.Del < 0 || p.Del > b.Len()-p.At || !utf8.ValidString(p.Ins) || strings.Contains(p.Ins, "\x00") {
		return api.Patch{}, api.ErrForm
	}
	high, _ := b.Place(p.At + p.Del)
	gone := b.piece(low, high)
	size := b.all().Bytes() + b.Rows() - 1
	if len(p.Ins) > b.most-size+len(gone) {
		return api.Patch{}, api.ErrFull
	}
	head, tail := b.around(low, high)
	come := strings.Split(head+p.Ins+tail, "\n")
	if b.Rows()-(high.Row-low.Row+1)+len(come) > api.MaxRows || !short(come) {
		return api.Patch{}, api.ErrFull
	}
	if low.Row == high.Row && len(come) == 1 {
		b.edit(low, p)
	} else {
		b.all().Splice(low.Row, high.Row-low.Row+1, come...)
		b.live = nil
	}
	b.count.Add(1)
	return api.Patch{At: p.At, Del: utf8.RuneCountInString(p.Ins), Ins: gone}, api.OK
}

// edit changes one row within its gap buffer, which stays for the next edit.
func (b *Buffer) edit(low api.Pos, p api.Patch) {
	if b.live == nil || b.at != low.Row {
		row, _ := b.Row(low.Row)
		b.live, _ = gap.New(api.MaxGap, row)
		b.at = low.Row
	}
	var l []int
	for _, r := range p.Ins {
		l = append(l, int(r))
	}
	b.live.Delete(low.Col, p.Del)
	b.live.Insert(low.Col, l...)
	b.ahead = true
}

// around tells what stands ahead of low in its row, and behind high in its one.
func (b *Buffer) around(low, high api.Pos) (head, tail string) {
	first, _ := b.Row(low.Row)
	last, _ := b.Row(high.Row)
	head, _ = text.Cut(first, 0, low.Col)
	tail, _ = text.Cut(last, high.Col, utf8.RuneCountInString(last))
	return head, tail
}

// piece tells what stands from low up to high.
func (b *Buffer) piece(low, high api.Pos) string {
	l := make([]string, 0, high.Row-low.Row+1)
	for i := low.Row; i <= high.Row; i++ {
		row, _ := b.Row(i)
		l = append(l, row)
	}
	head, tail := b.around(low, high)
	s := strings.Join(l, "\n")
	return strings.Clone(s[len(head) : len(s)-len(tail)])
}
