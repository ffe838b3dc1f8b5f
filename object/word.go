package object

import (
	"quill/api"
	"quill/spot"
	"quill/words"
)

// A row's classes by offsets, from where it begins up to where it ends.
type classes struct {
	of   map[int]int
	low  int
	high int
}

// word tells of words.
func word(s string, r []rune, at, wide int, big bool) (api.Range, api.Errno) {
	row := classes{of: map[int]int{}}
	row.low, row.high = spot.Row(r, at)
	if at == row.high { // no cell, or a row without runes
		return api.Range{}, api.ErrMove
	}
	cells, class, _ := words.Cells(s, big)
	for i, c := range cells {
		row.of[c] = class[i]
	}
	low, high := row.run(at)
	switch {
	case wide == 'i':
	case row.of[at] == 0:
		if high == row.high {
			return api.Range{}, api.ErrMove
		}
		_, high = row.run(high)
	case row.blank(high):
		_, high = row.run(high)
	case row.blank(low - 1):
		low, _ = row.run(low - 1)
	}
	return api.Range{Low: low, High: high}, api.OK
}

// blank tells whether a blank of the row stands there.
func (c classes) blank(at int) bool {
	return at >= c.low && at < c.high && c.of[at] == 0
}

// run tells the cells of one class around an offset.
func (c classes) run(at int) (low, high int) {
	low, high = at, at+1
	for low > c.low && c.of[low-1] == c.of[at] {
		low--
	}
	for high < c.high && c.of[high] == c.of[at] {
		high++
	}
	return low, high
}
