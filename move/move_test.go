package move

import (
	"strings"
	"sync"
	"testing"

	"quill/api"
)

const gg = api.OpG + 'g'

// P16.1
func TestKeys(t *testing.T) {
	var w sync.WaitGroup
	for range 4 {
		w.Go(func() {
			for key := -3; key < 300; key++ {
				is := key > 0 && key < 128 && strings.Contains("hljk0^$wbeWBEfFtT;,{}%G+-_'`", string(rune(key)))
				asks := key > 0 && key < 128 && strings.Contains("fFtT'`", string(rune(key)))
				if Is(key) != is || Asks(key) != asks {
					t.Error(key, Is(key), Asks(key))
				}
			}
		})
	}
	w.Wait()
	if !Is(gg) || Asks(gg) || Is(api.OpG) || Is(api.OpG+'h') || Is(api.OpG+'G') || Is(2*api.OpG+'g') || Is(-1<<63) || Is(1<<63-1) {
		t.Error("far keys")
	}
}

// P16.2
func TestGo(t *testing.T) {
	s := "ab (cd)\n\n  xb\nb"
	marks := []api.Mark{{Name: 'a', At: 11}, {Name: 'b', At: 15}, {Name: 'c', At: 16}}
	none, fb, Tb := api.Seek{}, api.Seek{Kind: 'f', Rune: 'b'}, api.Seek{Kind: 'T', Rune: 'b'}
	to, on, rows := api.KindTo, api.KindOn, api.KindRows
	for i, c := range []struct {
		at, key, r, count int
		k                 api.Seek
		to, kind          int // to -1: ErrMove
		x                 api.Seek
	}{
		{0, 'w', 0, 0, fb, 3, to, fb}, {0, 'w', 0, 2, fb, 4, to, fb}, {0, 'W', 0, 0, none, 3, to, none}, {3, 'b', 0, 0, none, 0, to, none}, {3, 'B', 0, 1, none, 0, to, none}, {0, 'e', 0, 0, none, 1, on, none}, {3, 'E', 0, 0, none, 6, on, none}, {14, 'w', 0, 0, none, -1, 0, none},
		{0, 'f', 'b', 0, none, 1, on, fb}, {0, 'f', 'x', 0, fb, -1, 0, none}, {0, 'f', 'b', 2, none, -1, 0, none}, {0, 't', ' ', 0, fb, 1, on, api.Seek{Kind: 't', Rune: ' '}}, {6, 'F', 'b', 0, none, 1, to, api.Seek{Kind: 'F', Rune: 'b'}}, {6, 'T', 'b', 0, fb, 2, to, Tb},
		{0, ';', 0, 0, fb, 1, on, fb}, {6, ',', 0, 0, fb, 1, to, fb}, {6, ';', 7, 0, Tb, 2, to, Tb}, {0, ',', 0, 0, Tb, 0, on, Tb}, {0, ';', 0, 2, fb, -1, 0, none}, {0, ';', 0, 0, none, -1, 0, none}, {0, ',', 0, 0, api.Seek{Rune: 'b'}, -1, 0, none},
		{0, '}', 0, 0, none, 8, to, none}, {0, '}', 0, 2, none, 15, to, none}, {14, '{', 0, 0, fb, 8, to, fb}, {0, '{', 0, 0, none, -1, 0, none},
		{0, '%', 0, 0, none, 6, on, none}, {5, '%', 0, 99, fb, 3, on, fb}, {7, '%', 0, 0, none, -1, 0, none},
		{0, 'j', 0, 2, fb, 9, rows, fb}, {0, 'G', 0, api.MaxCount, fb, 14, rows, fb}, {0, 'G', 0, 0, none, 14, rows, none}, {14, gg, 0, 3, none, 11, rows, none}, {3, '0', 0, 0, none, 0, to, none}, {0, '$', 0, 0, none, 7, on, none}, {0, 'k', 0, 0, none, -1, 0, none},
		{0, '`', 'a', 0, none, 11, to, none}, {0, '\'', 'a', 5, fb, 11, rows, fb}, {0, '`', 'b', 0, none, 15, to, none}, {0, '\'', 'b', 0, none, 14, rows, none}, {0, '`', 'c', 0, none, -1, 0, none}, {0, '\'', 'd', 0, none, -1, 0, none}, {0, '`', -1, 0, none, -1, 0, none},
	} {
		x, k, e := Go(s, c.at, api.Cmd{Key: c.key, Rune: c.r, Count: c.count}, c.k, marks)
		if c.to < 0 && (x != (api.Target{}) || k != none || e != api.ErrMove) || c.to >= 0 && (x != (api.Target{At: c.to, Kind: c.kind}) || k != c.x || e != api.OK) {
			t.Errorf("%d: %c at %d: %v %v %v", i, rune(c.key&0xff), c.at, x, k, e)
		}
	}
}

// P16.2
func TestWrong(t *testing.T) {
	h := api.Cmd{Key: 'l'}
	for i, c := range []struct {
		s  string
		at int
		c  api.Cmd
		k  api.Seek
		l  []api.Mark
	}{
		{"\xff", 0, h, api.Seek{}, nil}, {"\x00", 0, h, api.Seek{}, nil}, {strings.Repeat("x", api.MaxBytes+1), 0, h, api.Seek{}, nil}, {"ab", -1, h, api.Seek{}, nil}, {"ab", 3, h, api.Seek{}, nil},
		{"ab", 0, api.Cmd{}, api.Seek{}, nil}, {"ab", 0, api.Cmd{Key: 'x'}, api.Seek{}, nil}, {"ab", 0, api.Cmd{Key: 'l', Count: -1}, api.Seek{}, nil}, {"ab", 0, api.Cmd{Key: 'l', Count: api.MaxCount + 1}, api.Seek{}, nil},
		{"ab", 9, api.Cmd{Key: ';'}, api.Seek{}, nil}, {"\xff", 0, api.Cmd{Key: '`'}, api.Seek{}, nil}, {"()", 0, api.Cmd{Key: '%', Count: -1}, api.Seek{}, nil}, {"()", 0, api.Cmd{Key: '%', Count: api.MaxCount + 1}, api.Seek{}, nil}, {"()", 0, api.Cmd{Key: ';', Count: -1}, api.Seek{}, nil},
		{"ab", 0, h, api.Seek{Kind: 'x'}, nil}, {"ab", 0, h, api.Seek{Kind: -1}, nil}, {"ab", 0, h, api.Seek{}, []api.Mark{{Name: 'A'}}}, {"ab", 0, h, api.Seek{}, []api.Mark{{Name: 'b'}, {Name: 'a'}}},
	} {
		if x, k, e := Go(c.s, c.at, c.c, c.k, c.l); x != (api.Target{}) || k != (api.Seek{}) || e != api.ErrForm {
			t.Error(i, x, k, e)
		}
	}
}

// P16.3: ; goes on as f did
func TestGoesOn(t *testing.T) {
	s := "axbxcxd"
	for _, key := range []int{'f', 't'} {
		x, k, _ := Go(s, 0, api.Cmd{Key: key, Rune: 'x'}, api.Seek{}, nil)
		at := x.At
		if key == 't' {
			at++
		}
		y, k2, e := Go(s, at, api.Cmd{Key: ';'}, k, nil)
		z, _, f := Go(s, at, api.Cmd{Key: key, Rune: 'x'}, k, nil)
		if y != z || k2 != k || e != api.OK || f != api.OK {
			t.Error(key, y, z, e, f)
		}
	}
}

// Of all calls only Asks stands upon the table.
func TestWithoutTable(t *testing.T) {
	if !Asks('f') {
		t.Error("f")
	}
	for key, k := range keys {
		if k != kindOf(key) {
			t.Error(key, k)
		}
	}
	was := keys
	defer func() { keys = was }()
	for key := range keys {
		keys[key] = (was[key] + 1) % (byMark + 1)
	}
	if Asks('f') || !Is('f') || Is('x') {
		t.Error("f, x")
	}
	TestGo(t)
	TestWrong(t)
}
