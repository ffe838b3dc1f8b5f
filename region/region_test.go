package region

import (
	"strings"
	"testing"

	"quill/api"
)

func bad() []string {
	return []string{"\xff", "\x00", strings.Repeat("x", api.MaxBytes+1)}
}

// P17.1
func TestBetween(t *testing.T) {
	s := "äb\n\ncd"
	for _, c := range []struct {
		a, b, kind int
		r          api.Range
	}{
		{1, 4, api.KindTo, api.Range{Low: 1, High: 4}}, {4, 1, api.KindTo, api.Range{Low: 1, High: 4}}, {2, 2, api.KindTo, api.Range{Low: 2, High: 2}},
		{1, 4, api.KindOn, api.Range{Low: 1, High: 5}}, {5, 0, api.KindOn, api.Range{Low: 0, High: 6}}, {0, 2, api.KindOn, api.Range{Low: 0, High: 2}}, {0, 3, api.KindOn, api.Range{Low: 0, High: 3}}, {6, 5, api.KindOn, api.Range{Low: 5, High: 6}}, {0, 0, api.KindOn, api.Range{Low: 0, High: 1}},
		{1, 1, api.KindRows, api.Range{Low: 0, High: 2, Line: true}}, {5, 1, api.KindRows, api.Range{Low: 0, High: 6, Line: true}}, {3, 3, api.KindRows, api.Range{Low: 3, High: 3, Line: true}}, {2, 3, api.KindRows, api.Range{Low: 0, High: 3, Line: true}},
	} {
		if r, e := Between(s, c.a, c.b, c.kind); r != c.r || e != api.OK {
			t.Error(c, r, e)
		}
	}
	for _, c := range [][3]int{{-1, 0, 0}, {0, -1, 0}, {7, 0, 0}, {0, 7, 0}, {0, 0, -1}, {0, 0, 3}} {
		if r, e := Between(s, c[0], c[1], c[2]); r != (api.Range{}) || e != api.ErrForm {
			t.Error(c, r, e)
		}
	}
	for _, s := range bad() {
		if r, e := Between(s, 0, 0, 0); r != (api.Range{}) || e != api.ErrForm {
			t.Error(r, e)
		}
	}
}

// P17.2
func TestOf(t *testing.T) {
	s := "ab (cd)\n ef\n\ngh"
	marks := []api.Mark{{Name: 'a', At: 9}}
	f := api.Seek{Kind: 'f', Rune: 'e'}
	for i, c := range []struct {
		at        int
		c         api.Cmd
		low, high int // low -1: ErrMove
		line      bool
		x         api.Seek
	}{
		{0, api.Cmd{Oper: 'd', Key: 'w'}, 0, 3, false, f}, {0, api.Cmd{Oper: 'd', Key: 'w', Count: 2}, 0, 4, false, f}, {3, api.Cmd{Oper: 'c', Key: 'b'}, 0, 3, false, f}, {0, api.Cmd{Oper: 'y', Key: 'e'}, 0, 2, false, f}, {1, api.Cmd{Oper: 'd', Key: '$'}, 1, 7, false, f}, {3, api.Cmd{Oper: 'd', Key: '%'}, 3, 7, false, f}, {4, api.Cmd{Oper: 'd', Key: '%'}, 3, 5, false, f},
		{1, api.Cmd{Oper: 'd', Key: 'd'}, 0, 7, true, f}, {1, api.Cmd{Oper: '>', Key: '>', Count: 3}, 0, 12, true, f}, {9, api.Cmd{Oper: '<', Key: '<', Count: 3}, 8, 15, true, f}, {9, api.Cmd{Oper: '<', Key: '<', Count: 4}, -1, 0, false, f}, {12, api.Cmd{Oper: 'c', Key: 'c'}, 12, 12, true, f},
		{1, api.Cmd{Oper: api.OpG + 'u', Key: api.OpG + 'u', Count: 2}, 0, 11, true, f}, {1, api.Cmd{Oper: api.OpG + '~', Key: 'j'}, 0, 11, true, f}, {1, api.Cmd{Oper: api.OpG + 'U', Key: 'G'}, 0, 15, true, f}, {14, api.Cmd{Oper: 'y', Key: api.OpG + 'g'}, 0, 15, true, f},
		{0, api.Cmd{Oper: 'd', Key: 'G', Count: api.MaxCount}, 0, 15, true, f}, {0, api.Cmd{Oper: 'd', Key: 'd', Count: api.MaxCount}, -1, 0, false, f},
		{5, api.Cmd{Oper: 'd', Wide: 'i', Key: '('}, 4, 6, false, f}, {5, api.Cmd{Oper: 'd', Wide: 'a', Key: 'w'}, 4, 6, false, f}, {5, api.Cmd{Oper: 'd', Wide: 'i', Key: 'p'}, 0, 11, true, f}, {0, api.Cmd{Oper: 'd', Wide: 'a', Key: 'w', Count: 2}, -1, 0, false, f}, {0, api.Cmd{Oper: 'd', Wide: 'a', Key: '['}, -1, 0, false, f},
		{0, api.Cmd{Oper: 'd', Key: 'f', Rune: '('}, 0, 4, false, api.Seek{Kind: 'f', Rune: '('}}, {0, api.Cmd{Oper: 'd', Key: 'f', Rune: 'e'}, -1, 0, false, f}, {8, api.Cmd{Oper: 'd', Key: ';'}, 8, 10, false, f}, {0, api.Cmd{Oper: 'd', Key: '`', Rune: 'a'}, 0, 9, false, f}, {0, api.Cmd{Oper: 'd', Key: '\'', Rune: 'a'}, 0, 11, true, f}, {0, api.Cmd{Oper: 'd', Key: '`', Rune: 'b'}, -1, 0, false, f}, {0, api.Cmd{Oper: 'd', Key: 'h'}, -1, 0, false, f},
	} {
		r, x, e := Of(s, c.at, c.c, f, marks)
		if c.low < 0 && (r != (api.Range{}) || x != (api.Seek{}) || e != api.ErrMove) || c.low >= 0 && (r != (api.Range{Low: c.low, High: c.high, Line: c.line}) || x != c.x || e != api.OK) {
			t.Errorf("%d: %v at %d: %v %v %v", i, c.c, c.at, r, x, e)
		}
	}
}

// P17.2
func TestWrong(t *testing.T) {
	dd := api.Cmd{Oper: 'd', Key: 'd'}
	for i, c := range []struct {
		at int
		c  api.Cmd
		k  api.Seek
		l  []api.Mark
	}{
		{-1, dd, api.Seek{}, nil}, {3, dd, api.Seek{}, nil}, {0, api.Cmd{Key: 'w'}, api.Seek{}, nil}, {0, api.Cmd{Oper: 'x', Key: 'x'}, api.Seek{}, nil}, {0, api.Cmd{Oper: 'u', Key: 'w'}, api.Seek{}, nil},
		{0, api.Cmd{Oper: 'd', Key: 'd', Count: -1}, api.Seek{}, nil}, {0, api.Cmd{Oper: 'd', Key: 'd', Count: api.MaxCount + 1}, api.Seek{}, nil}, {0, api.Cmd{Oper: 'd', Key: 'w', Count: api.MaxCount + 1}, api.Seek{}, nil},
		{0, dd, api.Seek{Kind: 'x'}, nil}, {0, dd, api.Seek{}, []api.Mark{{Name: 'A'}}}, {0, api.Cmd{Oper: 'd', Wide: 'i', Key: 'w'}, api.Seek{Kind: 'x'}, nil}, {0, api.Cmd{Oper: 'd', Wide: 'i', Key: 'w'}, api.Seek{}, []api.Mark{{Name: 'A'}}},
		{0, api.Cmd{Oper: 'd', Wide: 'i', Key: 'x'}, api.Seek{}, nil}, {0, api.Cmd{Oper: 'd', Wide: 'i', Key: 'd'}, api.Seek{}, nil}, {0, api.Cmd{Oper: 'd', Wide: 'g', Key: api.OpG + 'g'}, api.Seek{}, nil}, {0, api.Cmd{Oper: 'd', Key: 'p'}, api.Seek{}, nil}, {0, api.Cmd{Oper: 'd', Key: 'c'}, api.Seek{}, nil}, {0, api.Cmd{Oper: api.OpG + 'u', Key: 'u'}, api.Seek{}, nil}, {0, api.Cmd{Oper: 'd'}, api.Seek{}, nil},
	} {
		if r, x, e := Of("ab", c.at, c.c, c.k, c.l); r != (api.Range{}) || x != (api.Seek{}) || e != api.ErrForm {
			t.Error(i, r, x, e)
		}
	}
	for _, s := range bad() {
		if r, _, e := Of(s, 0, dd, api.Seek{}, nil); r != (api.Range{}) || e != api.ErrForm {
			t.Error(r, e)
		}
	}
}

// P17.3
func TestWithin(t *testing.T) {
	s := "ab (cd)\n ef\n\ngh"
	for at := range len(s) + 1 {
		for _, key := range "hljk0^$wbeWBE{}%G+-_d" {
			r, _, e := Of(s, at, api.Cmd{Oper: 'd', Key: int(key)}, api.Seek{}, nil)
			if r.Low < 0 || r.Low > r.High || r.High > len(s) || e != api.OK && e != api.ErrMove {
				t.Errorf("%c at %d: %v %v", key, at, r, e)
			}
		}
	}
}
