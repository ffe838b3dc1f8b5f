package object

import (
	"quill/api"
	"quill/spot"
)

// paragraph tells of rows that have runes, or have none, together.
func paragraph(r []rune, at, wide int) (api.Range, api.Errno) {
	low, high := block(r, at)
	if wide == 'a' {
		switch {
		case high < len(r):
			_, high = block(r, high+1)
		case low > 0:
			low, _ = block(r, low-1)
		default:
			return api.Range{}, api.ErrMove
		}
	}
	return api.Range{Low: low, High: high, Line: true}, api.OK
}

// block tells where the first of the rows around at's begins that have runes as
// it has, or have none, too, and where the last one ends.
func block(r []rune, at int) (low, high int) {
	low, high = spot.Row(r, at)
	empty := low == high
	for low > 0 {
		l, h := spot.Row(r, low-1)
		if (l == h) != empty {
			break
		}
		low = l
	}
	for high < len(r) {
		l, h := spot.Row(r, high+1)
		if (l == h) != empty {
			break
		}
		high = h
	}
	return low, high
}
