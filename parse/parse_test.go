package parse

import (
	"strings"
	"sync"
	"testing"

	"quill/api"
	"quill/move"
)

func runes(s string) []int {
	var l []int
	for _, r := range s {
		l = append(l, int(r))
	}
	return l
}

const (
	gu = api.OpG + 'u'
	gU = api.OpG + 'U'
	gt = api.OpG + '~'
	gg = api.OpG + 'g'
)

func looks(t *testing.T, mode int, rec bool, s string, want api.Cmd) {
	t.Helper()
	l := runes(s)
	for i := range l { // P21.2: each beginning asks for more
		if c, more, e := Of(l[:i], mode, 999, rec); c != (api.Cmd{}) || !more || e != api.OK {
			t.Errorf("%q: %v %v %v", s[:i], c, more, e)
		}
	}
	if c, more, e := Of(l, mode, 999, rec); c != want || more || e != api.OK {
		t.Errorf("%q: %v %v %v", s, c, more, e)
	}
	if want.Key == 'q' && rec {
		return
	}
	for _, k := range []int{'x', 27, -1} {
		if c, more, e := Of(append(l[:len(l):len(l)], k), mode, 999, rec); c != (api.Cmd{}) || more || e != api.ErrKey {
			t.Errorf("%q and more: %v %v %v", s, c, more, e)
		}
	}
}

// P21.1
func TestNormal(t *testing.T) {
	for s, c := range map[string]api.Cmd{
		"dd": {Oper: 'd', Key: 'd'}, "cc": {Oper: 'c', Key: 'c'}, "yy": {Oper: 'y', Key: 'y'}, ">>": {Oper: '>', Key: '>'}, "<<": {Oper: '<', Key: '<'}, "guu": {Oper: gu, Key: gu}, "gUU": {Oper: gU, Key: gU}, "g~~": {Oper: gt, Key: gt}, "gUw": {Oper: gU, Key: 'w'}, "gu3u": {Oper: gu, Key: gu, Count: 3},
		"2d3w": {Oper: 'd', Key: 'w', Count: 6}, "d3w": {Oper: 'd', Key: 'w', Count: 3}, "3dw": {Oper: 'd', Key: 'w', Count: 3}, "dw": {Oper: 'd', Key: 'w'}, "\"ad10d": {Reg: 'a', Oper: 'd', Key: 'd', Count: 10}, "\"_12d10j": {Reg: '_', Oper: 'd', Key: 'j', Count: 120}, "d0": {Oper: 'd', Key: '0'},
		"diw": {Oper: 'd', Wide: 'i', Key: 'w'}, "c2aB": {Oper: 'c', Wide: 'a', Key: 'B', Count: 2}, "gUi\"": {Oper: gU, Wide: 'i', Key: '"'}, "yip": {Oper: 'y', Wide: 'i', Key: 'p'}, "dgg": {Oper: 'd', Key: gg}, "gugg": {Oper: gu, Key: gg}, "dfx": {Oper: 'd', Key: 'f', Rune: 'x'}, "d2`a": {Oper: 'd', Key: '`', Rune: 'a', Count: 2}, "d`\n": {Oper: 'd', Key: '`', Rune: 10},
		"w": {Key: 'w'}, "0": {Key: '0'}, "10l": {Key: 'l', Count: 10}, "999G": {Key: 'G', Count: 999}, "gg": {Key: gg}, "5gg": {Key: gg, Count: 5}, "f1": {Key: 'f', Rune: '1'}, "2T\"": {Key: 'T', Rune: '"', Count: 2}, "'z": {Key: '\'', Rune: 'z'}, "\"ax": {Reg: 'a', Key: 'x'}, "\"Z3p": {Reg: 'Z', Key: 'p', Count: 3}, "\"\"P": {Reg: '"', Key: 'P'}, "\"-w": {Reg: '-', Key: 'w'}, "\"0p": {Reg: '0', Key: 'p'}, "\"95u": {Reg: '9', Key: 'u', Count: 5},
		"\x12": {Key: 18}, "3\x12": {Key: 18, Count: 3}, "g-": {Key: api.OpG + '-'}, "2g+": {Key: api.OpG + '+', Count: 2}, "r\n": {Key: 'r', Rune: '\n'}, "3rä": {Key: 'r', Rune: 'ä', Count: 3}, "ma": {Key: 'm', Rune: 'a'}, "3@z": {Key: '@', Rune: 'z', Count: 3}, "qa": {Key: 'q', Rune: 'a'}, "r\"": {Key: 'r', Rune: '"'},
		"\x1b": {Key: 27}, "\"\x1b": {Key: 27}, "\"a\x1b": {Key: 27}, "12\x1b": {Key: 27}, "d\x1b": {Key: 27}, "2d3\x1b": {Key: 27}, "500d500\x1b": {Key: 27}, "df\x1b": {Key: 27}, "di\x1b": {Key: 27}, "r\x1b": {Key: 27}, "g\x1b": {Key: 27}, "dg\x1b": {Key: 27}, "m\x1b": {Key: 27}, "q\x1b": {Key: 27}, "\"a3gu2'\x1b": {Key: 27},
	} {
		looks(t, api.ModeNormal, false, s, c)
	}
	for _, r := range "xXsSDCYpPJ~iaIAoOuvV." {
		looks(t, api.ModeNormal, false, string(r), api.Cmd{Key: int(r)})
	}
	for _, r := range "wW\"()b[]{}Bp" {
		looks(t, api.ModeNormal, true, "da"+string(r), api.Cmd{Oper: 'd', Wide: 'a', Key: int(r)})
	}
	looks(t, api.ModeNormal, true, "q", api.Cmd{Key: 'q'})
	looks(t, api.ModeNormal, true, "2q", api.Cmd{Key: 'q', Count: 2})
	if c, more, e := Of(runes("qa"), api.ModeNormal, 999, true); c != (api.Cmd{}) || more || e != api.ErrKey {
		t.Error(c, more, e)
	}
}

// P21.1
func TestVisual(t *testing.T) {
	for _, mode := range []int{api.ModeVisual, api.ModeLines} {
		for _, r := range "dxcsy><uU~JovV" {
			looks(t, mode, false, string(r), api.Cmd{Key: int(r)})
			looks(t, mode, true, "\"b4"+string(r), api.Cmd{Reg: 'b', Count: 4, Key: int(r)})
		}
		for _, r := range "wW\"()b[]{}Bp" {
			looks(t, mode, false, "i"+string(r), api.Cmd{Wide: 'i', Key: int(r)})
			looks(t, mode, false, "2a"+string(r), api.Cmd{Wide: 'a', Key: int(r), Count: 2})
		}
		for _, r := range "hljk0^$wbeWBE;,{}%G+-_" {
			looks(t, mode, false, string(r), api.Cmd{Key: int(r)})
		}
		for _, r := range "fFtT'`" {
			looks(t, mode, false, "3"+string(r)+"ä", api.Cmd{Key: int(r), Rune: 'ä', Count: 3})
		}
		looks(t, mode, false, "gg", api.Cmd{Key: gg})
		looks(t, mode, false, "3i\x1b", api.Cmd{Key: 27})
		for _, s := range []string{"p", "i3", "gu", "g-", "q", "m", "@", "r", ".", "D", "S", "I", "A", "Y", "\x12", "X", "ix", "P", "C", "O"} {
			if c, more, e := Of(runes(s), mode, 999, true); c != (api.Cmd{}) || more || e != api.ErrKey {
				t.Errorf("%q: %v %v %v", s, c, more, e)
			}
		}
	}
}

// P21.1
func TestErrors(t *testing.T) {
	for _, s := range []string{"z", "\"!", "\"\n", "\"a\"b", "\"a3\"b", "3\"a", "gd", "gG", "dx", "dc", "d>", "cd", "guU", "gug-", "dgu", "dix", "did", "di3", "d\"a", "mA", "m1", "@A", "@@", "@:", "q1", "qA", "\x01", "\r", "ä", "3\t", "Z", "Q", "R", "&", "dr", "dgG", "ggx", "\u0080", "99d99z", "99d99ix", "99d99gz"} {
		if c, more, e := Of(runes(s), api.ModeNormal, 999, false); c != (api.Cmd{}) || more || e != api.ErrKey {
			t.Errorf("%q: %v %v %v", s, c, more, e)
		}
	}
	for _, k := range []int{0, -1, -1 << 63, api.OpG, gg, 1<<63 - 1} {
		for _, s := range []string{"", "f", "r", "\"", "\"a", "3", "d", "di", "g", "m", "'", "q"} {
			if c, more, e := Of(append(runes(s), k), api.ModeNormal, 999, false); c != (api.Cmd{}) || more || e != api.ErrKey {
				t.Errorf("%q %d: %v %v %v", s, k, c, more, e)
			}
		}
	}
	if c, more, e := Of([]int{'f', api.OpG - 1}, api.ModeNormal, 999, false); c != (api.Cmd{Key: 'f', Rune: api.OpG - 1}) || more || e != api.OK {
		t.Error(c, more, e)
	}
	for _, s := range []string{"99d99g", "99d99i", "99d99f", "99d99"} { // the product is asked when the command is whole
		if c, more, e := Of(runes(s), api.ModeNormal, 999, false); c != (api.Cmd{}) || !more || e != api.OK {
			t.Errorf("%q: %v %v %v", s, c, more, e)
		}
	}
	if c, more, e := Of([]int{'r', 1}, api.ModeNormal, 999, false); c != (api.Cmd{Key: 'r', Rune: 1}) || more || e != api.OK {
		t.Error(c, more, e)
	}
	for s, most := range map[string]int{"1000": 999, "13": 12, "2": 1, "13w": 12, "d13": 12, "3d5w": 12, "\"a3d5d": 12, "9d112iw": 999, "13\x1b": 12, "4d4wx": 12, "13z": 12, "99999999999999999999999999": 999} {
		if c, more, e := Of(runes(s), api.ModeNormal, most, false); c != (api.Cmd{}) || more || e != api.ErrLimit {
			t.Errorf("%q: %v %v %v", s, c, more, e)
		}
	}
	if c, _, e := Of(runes("3d4w"), api.ModeNormal, 12, false); c.Count != 12 || e != api.OK {
		t.Error(c, e)
	}
	for _, c := range [][2]int{{api.ModeNone, 9}, {api.ModeInsert, 9}, {5, 9}, {-1, 9}, {api.ModeNormal, 0}, {api.ModeNormal, -1}, {api.ModeNormal, api.MaxCount + 1}} {
		if x, more, e := Of(nil, c[0], c[1], false); x != (api.Cmd{}) || more || e != api.ErrForm {
			t.Error(c, x, more, e)
		}
	}
	if _, more, e := Of(runes(strings.Repeat("x", 100000)), api.ModeNormal, 9, false); more || e != api.ErrKey {
		t.Error(e)
	}
}

// P21.1: a rune follows where the motion asks for one.
func TestAsks(t *testing.T) {
	for key := -1; key < 300; key++ {
		_, more, e := Of([]int{'d', key}, api.ModeNormal, 9, false)
		if is(key, forRune) != move.Asks(key) || move.Asks(key) && (!more || e != api.OK) {
			t.Error(key, more, e)
		}
	}
}

// The table is made once, whoever asks first.
func TestTogether(t *testing.T) {
	var w sync.WaitGroup
	for range 8 {
		w.Go(func() {
			if c, _, e := Of([]int{'d', 'd'}, api.ModeNormal, 9, false); c.Oper != 'd' || e != api.OK {
				t.Error(c, e)
			}
		})
	}
	w.Wait()
}

// The table has what the function says, and no answer hangs on it.
func TestWithoutTable(t *testing.T) {
	if _, more, e := Of([]int{'d'}, api.ModeNormal, 9, false); !more || e != api.OK {
		t.Error(more, e)
	}
	for key, use := range keys {
		if use != usesOf(key) {
			t.Error(key, use)
		}
	}
	was := keys
	defer func() { keys = was }()
	for _, spoil := range []uint8{0xff, forOper, forNormal, forVisual, forObject, forReg, forRune} {
		for key := range keys {
			keys[key] = was[key] ^ spoil
		}
		TestNormal(t)
		TestVisual(t)
		TestErrors(t)
		TestAsks(t)
	}
}
