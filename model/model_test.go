package model

import (
	"reflect"
	"slices"
	"strings"
	"testing"

	"quill/api"
	"quill/undo"
)

var conf = api.Conf{Bytes: api.MaxBytes, Count: api.MaxCount, Depth: api.MaxDepth, Steps: api.MaxSteps, Nodes: api.MaxNodes}

// run types keys, and looks at each editor on the way.
func run(t *testing.T, s api.State, keys string) api.State {
	t.Helper()
	for i, k := range keys {
		was := deep(s)
		x, e := Step(s, int(k))
		if e != api.OK || Check(x) != api.OK {
			t.Fatalf("%q, key %d: %v: %+v", keys, i, e, x)
		}
		if !reflect.DeepEqual(s, was) {
			t.Fatalf("%q, key %d: what was handed in is changed", keys, i)
		}
		if x.Err != 0 && !(x.Text == s.Text && slices.Equal(x.Regs, s.Regs) && slices.Equal(x.Marks, s.Marks) && sameTree(x.Undo, s.Undo)) {
			t.Fatalf("%q, key %d: an error changes something", keys, i) // P22.6
		}
		s = x
	}
	return s
}

func deep(s api.State) api.State {
	s.Pend, s.Dot, s.Typed, s.Keys = slices.Clone(s.Pend), slices.Clone(s.Dot), slices.Clone(s.Typed), slices.Clone(s.Keys)
	s.Regs, s.Marks, s.Undo.Nodes = slices.Clone(s.Regs), slices.Clone(s.Marks), slices.Clone(s.Undo.Nodes)
	return s
}

func sameTree(a, b api.Tree) bool { return a.Cur == b.Cur && slices.Equal(a.Nodes, b.Nodes) }

func begin(t *testing.T, s string) api.State {
	t.Helper()
	x, e := New(conf, s)
	if e != api.OK || Check(x) != api.OK {
		t.Fatal(e)
	}
	return x
}

func str(l []int) string {
	var r []rune
	for _, k := range l {
		r = append(r, rune(k))
	}
	return string(r)
}

func reg(s api.State, name int) api.Reg {
	for _, r := range s.Regs {
		if r.Name == name {
			return r
		}
	}
	return api.Reg{}
}

// P22.1
func TestNew(t *testing.T) {
	s := begin(t, "äb\n")
	if s.Text != "äb\n" || s.Mode != api.ModeNormal || s.Cur != 0 || s.Conf != conf || len(s.Undo.Nodes) != 1 {
		t.Error(s)
	}
	small := conf
	small.Bytes = 3
	for i, c := range []struct {
		c api.Conf
		s string
	}{
		{conf, "\xff"}, {conf, "\x00"}, {conf, strings.Repeat("x", api.MaxGap+1)}, {conf, strings.Repeat("\n", api.MaxRows)}, {small, "ää"}, {api.Conf{}, ""},
		{api.Conf{Bytes: 0, Count: 1, Depth: 1, Steps: 1, Nodes: 2}, ""}, {api.Conf{Bytes: api.MaxBytes + 1, Count: 1, Depth: 1, Steps: 1, Nodes: 2}, ""}, {api.Conf{Bytes: 1, Count: 0, Depth: 1, Steps: 1, Nodes: 2}, ""}, {api.Conf{Bytes: 1, Count: 1000, Depth: 1, Steps: 1, Nodes: 2}, ""}, {api.Conf{Bytes: 1, Count: 1, Depth: -1, Steps: 1, Nodes: 2}, ""}, {api.Conf{Bytes: 1, Count: 1, Depth: 9, Steps: 1, Nodes: 2}, ""}, {api.Conf{Bytes: 1, Count: 1, Depth: 1, Steps: 0, Nodes: 2}, ""}, {api.Conf{Bytes: 1, Count: 1, Depth: 1, Steps: 2001, Nodes: 2}, ""}, {api.Conf{Bytes: 1, Count: 1, Depth: 1, Steps: 1, Nodes: 1}, ""}, {api.Conf{Bytes: 1, Count: 1, Depth: 1, Steps: 1, Nodes: 65}, ""},
	} {
		if x, e := New(c.c, c.s); !reflect.DeepEqual(x, api.State{}) || e != api.ErrForm {
			t.Error(i, e)
		}
	}
	if _, e := New(api.Conf{Bytes: 1, Count: 1, Depth: 0, Steps: 1, Nodes: 2}, "x"); e != api.OK {
		t.Error(e)
	}
	if _, e := New(conf, strings.Repeat("\n", api.MaxRows-1)); e != api.OK {
		t.Error(e)
	}
}

// P22.1
func TestCheck(t *testing.T) {
	ins, _ := undo.New("ab")
	good := []func(s *api.State){
		func(s *api.State) {}, func(s *api.State) { s.Err = -77 }, func(s *api.State) { s.Pend = []int{'2', 'd'} }, func(s *api.State) { s.Mode = api.ModeVisual; s.Cur, s.From = 2, 5 }, func(s *api.State) { s.Seek = api.Seek{Kind: 'T', Rune: -1} }, func(s *api.State) { s.Rec = 'q'; s.Keys = make([]int, api.MaxKeys) }, func(s *api.State) { s.Dot = make([]int, api.MaxKeys) }, func(s *api.State) { s.Marks = []api.Mark{{Name: 'a', At: 5}} },
		func(s *api.State) {
			s.Mode, s.Cur, s.Start, s.Back, s.Typed, s.Undo = api.ModeInsert, 2, "ab", 2, make([]int, api.MaxKeys), ins
		},
	}
	for i, f := range good {
		s := begin(t, "ab\ncd")
		if f(&s); Check(s) != api.OK {
			t.Error(i, s)
		}
	}
	for i, f := range []func(s *api.State){
		func(s *api.State) { s.Conf.Nodes = 1 }, func(s *api.State) { s.Conf.Bytes = 4 }, func(s *api.State) { s.Text = "\xff" }, func(s *api.State) { s.Text = "ab\nce" }, func(s *api.State) { s.Cur = 2 }, func(s *api.State) { s.Cur = -1 }, func(s *api.State) { s.Cur = 6; s.Mode = api.ModeVisual }, func(s *api.State) { s.Mode = 0 }, func(s *api.State) { s.Mode = 5 },
		func(s *api.State) { s.From = 1 }, func(s *api.State) { s.Mode = api.ModeVisual; s.From = 6 }, func(s *api.State) { s.Mode = api.ModeLines; s.From = -1 }, func(s *api.State) { s.Pend = []int{'w'} }, func(s *api.State) { s.Pend = []int{'z'} }, func(s *api.State) { s.Pend = []int{'9', '9', '9', '9'} }, func(s *api.State) { s.Mode = api.ModeVisual; s.Pend = []int{'d'} }, func(s *api.State) { s.Pend = []int{'q'}; s.Rec = 'a' },
		func(s *api.State) { s.Regs = []api.Reg{{Name: '_'}} }, func(s *api.State) { s.Marks = []api.Mark{{Name: '_'}} }, func(s *api.State) { s.Marks = []api.Mark{{Name: 'a', At: 6}} }, func(s *api.State) { s.Undo.Cur = 3 }, func(s *api.State) { s.Undo.Nodes = nil }, func(s *api.State) { s.Undo = ins },
		func(s *api.State) { s.Seek.Rune = 1 }, func(s *api.State) { s.Seek.Kind = 'g' }, func(s *api.State) { s.Dot = make([]int, api.MaxKeys+1) }, func(s *api.State) { s.Rec = 'a'; s.Keys = make([]int, api.MaxKeys+1) }, func(s *api.State) { s.Keys = []int{1} }, func(s *api.State) { s.Rec = 'A' }, func(s *api.State) { s.Typed = []int{1} }, func(s *api.State) { s.Start = "x" }, func(s *api.State) { s.Back = 1 },
		func(s *api.State) { s.Mode, s.Start, s.Undo = api.ModeInsert, "ab", ins; s.Pend = []int{'2'} }, func(s *api.State) { s.Mode, s.Start, s.Undo = api.ModeInsert, "ab", ins; s.From = 1 }, func(s *api.State) { s.Mode, s.Start, s.Undo = api.ModeInsert, "ab", ins; s.Back = 3 }, func(s *api.State) { s.Mode, s.Undo = api.ModeInsert, ins }, func(s *api.State) { s.Mode = api.ModeInsert; s.Start = "\xff" }, func(s *api.State) {
			s.Mode, s.Start, s.Undo = api.ModeInsert, "ab", ins
			s.Typed = make([]int, api.MaxKeys+1)
		},
	} {
		s := begin(t, "ab\ncd")
		f(&s)
		x, e := Step(s, 'x')
		if Check(s) != api.ErrForm || !reflect.DeepEqual(x, api.State{}) || e != api.ErrForm {
			t.Error(i, e)
		}
	}
}

// P22.4: what keys come to
func TestNormal(t *testing.T) {
	for _, c := range []struct {
		s, keys, want string
		cur, err      int
	}{
		{"ab", "x", "b", 0, 0}, {"abc", "2x", "c", 0, 0}, {"abc", "$x", "ab", 1, 0}, {"abc", "$2X", "c", 0, 0}, {"", "x", "", 0, 6}, {"abc", "2rz", "zzc", 1, 0}, {"abc", "r\n", "abc", 0, 1}, {"abc", "5rz", "abc", 0, 6}, {"abc", "2~", "ABc", 2, 0}, {"a\nb\nc", "3J", "a b c", 3, 0},
		{"ab cd ef", "dw", "cd ef", 0, 0}, {"ab cd ef", "2dw", "ef", 0, 0}, {"ab cd ef", "d2w", "ef", 0, 0}, {"ab cd", "wD", "ab ", 2, 0}, {"a\nb\nc", "jdd", "a\nc", 2, 0}, {"a\nb\nc", "2dd", "c", 0, 0}, {"a\nb", "3dd", "a\nb", 0, 6}, {"a\nb", "dj", "", 0, 0}, {"(a)b", "d%", "b", 0, 0}, {"ab ab", "dfb", " ab", 0, 0}, {"ab cd", "wdiw", "ab ", 2, 0}, {"ab", ">>", "  ab", 2, 0}, {"  ab", "<<", "ab", 0, 0}, {"ab\ncd", "gUj", "AB\nCD", 0, 0}, {"aB", "g~~", "Ab", 0, 0}, {"AB cd", "guw", "ab cd", 0, 0},
		{"ab", "xp", "ba", 1, 0}, {"ab", "x2p", "baa", 2, 0}, {"a\nb", "yyjp", "a\nb\na", 4, 0}, {"a\nb", "ddp", "b\na", 2, 0}, {"a\nb", "jddP", "b\na", 0, 0}, {"ab", "p", "ab", 0, 7}, {"ab", "\"qp", "ab", 0, 7}, {"ab cd", "\"ayw\"Ayw\"ap", "aab ab b cd", 6, 0}, {"a\nb", "Yjp", "a\nb\na", 4, 0},
		{"ab", "ix\x1b", "xab", 0, 0}, {"ab", "ax\x1b", "axb", 1, 0}, {" ab", "$Ix\x1b", " xab", 1, 0}, {"ab", "Ax\x1b", "abx", 2, 0}, {"ab\nc", "ox\x1b", "ab\nx\nc", 3, 0}, {"ab\nc", "jOx\x1b", "ab\nx\nc", 3, 0}, {"ab", "3ix\x1b", "xab", 0, 0}, {"", "ax\x1b", "x", 0, 0}, {"ab", "ix  y\x1b", "x  yab", 3, 0}, {"ab", "lix\n\ty\x1b", "ax\n\tyb", 4, 0},
		{"ab cd", "cwx\x1b", "xcd", 0, 0}, {"ab cd", "ciwx\x1b", "x cd", 0, 0}, {"abc", "sx\x1b", "xbc", 0, 0}, {"abc\nd", "9sx\x1b", "x\nd", 0, 0}, {"\nd", "sx\x1b", "x\nd", 0, 0}, {"a\nb\nc", "2Sx\x1b", "x\nc", 0, 0}, {"abc", "lCx\x1b", "ax", 1, 0}, {"ab\ncd\ne", "l2Cx\x1b", "ax\ne", 1, 0}, {"a\nb\nc", "jccx\x1b", "a\nx\nc", 2, 0},
		{"ab", "xu", "ab", 0, 0}, {"ab", "xxuu", "ab", 0, 0}, {"ab", "xx2u", "ab", 0, 0}, {"ab", "x2u", "b", 0, 6}, {"ab", "u", "ab", 0, 6}, {"ab", "xu\x12", "b", 0, 0}, {"abc", "xxuu2\x12", "c", 0, 0}, {"abc", "xxu\x12\x12", "c", 0, 6}, {"abc", "xuxg-g-", "abc", 0, 0}, {"abc", "xu$xg-", "bc", 0, 0}, {"abc", "xu$x2g-2g+", "ab", 1, 0}, {"abc", "g-", "abc", 0, 6}, {"abc", "g+", "abc", 0, 6},
		{"abc", "lmax`a", "ac", 1, 0}, {"abc", "llmahx`a", "ac", 1, 0}, {"a b", "wma0dw`ax", "", 0, 0}, {"a\n b", "jlma0k'a", "a\n b", 3, 0}, {"ab", "`z", "ab", 0, 6},
		{"ab ab", "fb;", "ab ab", 4, 0}, {"ab ab", "fb;,", "ab ab", 1, 0}, {"ab ab", ";", "ab ab", 0, 6}, {"abcabc", "dfb;", "cabc", 2, 0},
		{"abcd", "x..", "d", 0, 0}, {"ab ab", "ix\x1bw.", "xab xab", 4, 0}, {"ab", ".", "ab", 0, 7}, {"a b c d", "dw2.", "c d", 0, 0}, {"a\nb\nc\nd", "2dd.", "", 0, 0}, {"ab", "xyl.", "", 0, 0}, {"abc", "xu.", "bc", 0, 0}, {"ab", "cwx\x1b.", "xb", 0, 0},
		{"abcdef", "qaxq@a", "cdef", 0, 0}, {"abcdef", "qaxlq2@a", "bdf", 2, 0}, {"ab", "@z", "ab", 0, 7}, {"abcd", "qaxq3@a", "", 0, 0}, {"abc", "qaxq3@a", "bc", 0, 6}, {"ab", "qaq@a", "ab", 0, 0},
		{"ab", "z", "ab", 0, 5}, {"ab", "1000", "ab", 0, 2}, {"ab", "1000w", "ab", 1, 0}, {"ab", "d3\x1bx", "b", 0, 0}, {"ab", "\x1b", "ab", 0, 0}, {"ab", "w", "ab", 1, 0}, {"ab", "l$", "ab", 1, 0}, {"ab", "$w", "ab", 1, 6}, {"a", "l", "a", 0, 0},
	} {
		s := run(t, begin(t, c.s), c.keys)
		if s.Text != c.want || s.Cur != c.cur || s.Err != c.err || s.Mode != api.ModeNormal || len(s.Pend) > 0 {
			t.Errorf("%q %q: %q %d, mode %d, error %d, typed %q", c.s, c.keys, s.Text, s.Cur, s.Mode, s.Err, str(s.Pend))
		}
	}
}

// P22.4: registers
func TestRegisters(t *testing.T) {
	for _, c := range []struct {
		s, keys string
		name    int
		want    api.Reg
	}{
		{"ab", "x", '-', api.Reg{Text: "a"}}, {"ab", "x", '"', api.Reg{Text: "a"}}, {"ab", "$X", '-', api.Reg{Text: "a"}}, {"ab", "\"qx", 'q', api.Reg{Text: "a"}}, {"ab", "\"qx", '-', api.Reg{}}, {"ab", "\"_x", '"', api.Reg{}},
		{"ab", "yl", '0', api.Reg{Text: "a"}}, {"a\nb", "dd", '1', api.Reg{Text: "a", Line: true}}, {"a\nb\nc", "dddd", '2', api.Reg{Text: "a", Line: true}}, {"a\nb", "S", '1', api.Reg{Text: "a", Line: true}}, {"ab", "s", '-', api.Reg{Text: "a"}}, {"ab", "rx", '"', api.Reg{}}, {"ab", ">>", '"', api.Reg{}}, {"ab", "\"qD", 'q', api.Reg{Text: "ab"}}, {"ab\nc", "\"qY", 'q', api.Reg{Text: "ab", Line: true}}, {"\nc", "D", '-', api.Reg{Text: ""}},
		{"abc", "qqx\x1blq", 'q', api.Reg{Text: "x\x1bl"}}, {"abc", "qqzx5\x1bq", 'q', api.Reg{Text: "zx5\x1b"}}, {"abc", "qqix\x1bq", '"', api.Reg{Text: "ix\x1b"}},
	} {
		s := run(t, begin(t, c.s), c.keys)
		if c.want != (api.Reg{}) || c.name == '-' && c.s == "\nc" {
			c.want.Name = c.name
		}
		if r := reg(s, c.name); r != c.want {
			t.Errorf("%q %q: %v", c.s, c.keys, r)
		}
	}
}

// P22.3
func TestInsert(t *testing.T) {
	s := run(t, begin(t, "ab\ncd"), "lma$2i")
	if s.Mode != api.ModeInsert || s.Start != "ab\ncd" || s.Back != 1 || str(s.Typed) != "2i" || s.Cur != 1 {
		t.Fatal(s)
	}
	s = run(t, s, "xä")
	if s.Text != "axäb\ncd" || s.Cur != 3 || s.Marks[0].At != 1 || len(s.Undo.Nodes) != 1 || str(s.Typed) != "2ixä" {
		t.Error(s)
	}
	s = run(t, s, "\x08\x7f\x7f")
	if s.Text != "b\ncd" || s.Cur != 0 || str(s.Typed) != "2ixä\x08\x7f\x7f" || s.Dot != nil {
		t.Error(s)
	}
	for k, want := range map[int]api.Errno{8: api.ErrMove, 127: api.ErrMove, 0: api.ErrKey, -1: api.ErrKey, 13: api.ErrKey, 31: api.ErrKey, 0xd800: api.ErrKey, 0x110000: api.ErrKey, api.OpG: api.ErrKey} {
		x, _ := Step(s, k)
		y := deep(s)
		if y.Err = int(want); !reflect.DeepEqual(deep(x), y) {
			t.Error(k, x)
		}
	}
	s = run(t, s, "\x1b")
	if s.Mode != api.ModeNormal || s.Cur != 0 || str(s.Dot) != "2ixä\x08\x7f\x7f\x1b" || s.Typed != nil || s.Start != "" || s.Back != 0 || len(s.Undo.Nodes) != 2 || s.Undo.Nodes[1].At != 1 {
		t.Error(s)
	}
	s = run(t, s, "a\x1b") // nothing was changed
	if len(s.Undo.Nodes) != 2 || str(s.Dot) != "a\x1b" || s.Cur != 0 {
		t.Error(s)
	}
	s = run(t, s, "u")
	if s.Text != "ab\ncd" || s.Cur != 1 {
		t.Error(s)
	}
	if s = run(t, begin(t, "a\nb"), "ji\x08"); s.Text != "ab" || s.Cur != 1 {
		t.Error(s)
	}
}

// P22.3: Typed stops, and Dot stays
func TestLongInsert(t *testing.T) {
	s := run(t, begin(t, "a"), "x3i")
	s = run(t, s, strings.Repeat("x", api.MaxKeys-3))
	if len(s.Typed) != api.MaxKeys-1 {
		t.Error(len(s.Typed))
	}
	if x := run(t, s, "\x1b"); len(x.Dot) != api.MaxKeys {
		t.Error(len(x.Dot))
	}
	s = run(t, s, "yz")
	if len(s.Typed) != api.MaxKeys {
		t.Error(len(s.Typed))
	}
	if x := run(t, s, "\x1b"); str(x.Dot) != "x" || len(x.Text) != api.MaxKeys-1 {
		t.Error(len(x.Dot))
	}
	s = run(t, begin(t, "ab cd"), "xcw"+strings.Repeat("x", api.MaxKeys))
	if x := run(t, s, "\x1b"); str(x.Dot) != "x" || len(s.Typed) != api.MaxKeys {
		t.Error(len(x.Dot), len(s.Typed))
	}
}

// P22.4: Dot
func TestDot(t *testing.T) {
	for keys, want := range map[string]string{"x": "x", "2x": "2x", "\"ax": "\"ax", "X": "", "yy": "", "Y": "", "dw": "dw", "g~~": "g~~", ">>": ">>", "rx": "rx", "2~": "2~", "J": "J", "xp": "p", "D": "D", "xw": "x", "xu": "x", "xma": "x", "xz": "x", "x9x": "9x", "ia\x1b": "ia\x1b", "cwa\x1b": "cwa\x1b", "sa\x1b": "sa\x1b", "oa\x1b": "oa\x1b", "x.": "x", "qaxq": "x", "xvd": "x", "xvc\x1b": "x", "xvcq\x1b": "x", "d2w": "d2w", "xy\x1b": "x", "xyyp": "p", "xcw\x1b": "cw\x1b", "xia\x1b..": "ia\x1b"} {
		if s := run(t, begin(t, "ab cd ef\ngh"), keys); str(s.Dot) != want {
			t.Errorf("%q: %q", keys, str(s.Dot))
		}
	}
}

// P22.3, P22.4: a command that leads into insert ends with it: Dot stays till Esc
func TestDotOfInsert(t *testing.T) {
	for _, keys := range []string{"cw", "2cw", "c2w", "\"acw", "ciw", "cc", "c$", "s", "3s", "S", "2S", "C", "\"_C", "i", "3a", "I", "A", "o", "O"} {
		for ahead, dot := range map[string]string{"": "", "x": "x", "cwq\x1b": "cwq\x1b"} {
			s := run(t, begin(t, "ab cd ef\n\ngh"), ahead)
			typed := ""
			for _, k := range keys + "zä\x7f" {
				s = run(t, s, string(k))
				typed += string(k)
				if str(s.Dot) != dot || s.Err != 0 {
					t.Errorf("%q behind %q: %q, error %d", typed, ahead, str(s.Dot), s.Err)
				}
			}
			if s = run(t, s, "\x01"); str(s.Dot) != dot || s.Err != int(api.ErrKey) { // an error leaves it, too
				t.Errorf("%q behind %q: %q, error %d", typed, ahead, str(s.Dot), s.Err)
			}
			if s = run(t, s, "\x1b"); str(s.Dot) != typed+"\x1b" {
				t.Errorf("%q behind %q and Esc: %q", typed, ahead, str(s.Dot))
			}
		}
	}
	s := begin(t, "ab cd") // played keys, too
	s.Dot, s.Regs = []int{'x'}, []api.Reg{{Name: 'a', Text: "cwz"}, {Name: 'b', Text: "y\x1b"}}
	if s = run(t, s, "@a"); str(s.Dot) != "x" || str(s.Typed) != "cwz" {
		t.Errorf("%q %q", str(s.Dot), str(s.Typed))
	}
	if s = run(t, s, "y\x1b"); str(s.Dot) != "cwzy\x1b" || s.Text != "zycd" {
		t.Errorf("%q %q", str(s.Dot), s.Text)
	}
}

// P22.5
func TestVisual(t *testing.T) {
	for _, c := range []struct {
		s, keys, want string
		cur, mode     int
		from, err     int
	}{
		{"abcd", "lv", "abcd", 1, api.ModeVisual, 1, 0}, {"abcd", "vl", "abcd", 1, api.ModeVisual, 0, 0}, {"abcd", "vlo", "abcd", 0, api.ModeVisual, 1, 0}, {"abcd", "vl\x1b", "abcd", 1, api.ModeNormal, 0, 0}, {"abcd", "vlv", "abcd", 1, api.ModeNormal, 0, 0}, {"abcd", "lvV", "abcd", 1, api.ModeLines, 1, 0}, {"abcd", "VV", "abcd", 0, api.ModeNormal, 0, 0}, {"abcd", "lVv", "abcd", 1, api.ModeVisual, 1, 0},
		{"abcd", "vld", "cd", 0, api.ModeNormal, 0, 0}, {"abcd", "$vhx", "ab", 1, api.ModeNormal, 0, 0}, {"ab\ncd", "vjd", "d", 0, api.ModeNormal, 0, 0}, {"ab\ncd\ne", "Vjd", "e", 0, api.ModeNormal, 0, 0}, {"ab\ncd", "Vjly", "ab\ncd", 1, api.ModeNormal, 0, 0}, {"ab\ncd", "vcx", "xb\ncd", 1, api.ModeInsert, 0, 0}, {"ab\ncd", "Vsx\x1b", "x\ncd", 0, api.ModeNormal, 0, 0},
		{"ab\ncd", "vj>", "  ab\n  cd", 2, api.ModeNormal, 0, 0}, {" ab\n   cd", "Vj<", "ab\n cd", 0, api.ModeNormal, 0, 0}, {"aB", "vlU", "AB", 0, api.ModeNormal, 0, 0}, {"aB", "Vu", "ab", 0, api.ModeNormal, 0, 0}, {"aB", "vl~", "Ab", 0, api.ModeNormal, 0, 0}, {"aB", "lV~", "Ab", 1, api.ModeNormal, 0, 0},
		{"a\nb\nc", "vJ", "a b\nc", 1, api.ModeNormal, 0, 0}, {"a\nb\nc", "VjjJ", "a b c", 3, api.ModeNormal, 0, 0}, {"a\nb\nc", "vjJ", "a b\nc", 1, api.ModeNormal, 0, 0}, {"a", "vJ", "a", 0, api.ModeNormal, 0, 6}, {"a\nb", "v9J", "a b", 1, api.ModeNormal, 0, 0},
		{"(ab) c", "lvib", "(ab) c", 2, api.ModeVisual, 1, 0}, {"(ab) c", "lvabd", " c", 0, api.ModeNormal, 0, 0}, {"((a))", "llv2ib", "((a))", 3, api.ModeVisual, 1, 0}, {"()", "vib", "()", 0, api.ModeNormal, 0, 6}, {"a\nb\n\nc", "vip", "a\nb\n\nc", 2, api.ModeLines, 0, 0}, {"a\nb\n\nc", "vipd", "\nc", 0, api.ModeNormal, 0, 0}, {"\n", "vip", "\n", 0, api.ModeLines, 0, 0}, {"", "vip", "", 0, api.ModeNormal, 0, 6}, {"(\n)", "vibo", "(\n)", 1, api.ModeVisual, 0, 0}, {"(\n)", "vibo\x1b", "(\n)", 0, api.ModeNormal, 0, 0},
		{"abcabc", "vfc;", "abcabc", 5, api.ModeVisual, 0, 0}, {"ab cd ef", "v2w", "ab cd ef", 6, api.ModeVisual, 0, 0}, {"ab", "vlz", "ab", 1, api.ModeNormal, 0, 5}, {"ab", "vlj", "ab", 1, api.ModeNormal, 0, 6}, {"ab", "v\"ayP", "aab", 0, api.ModeNormal, 0, 0}, {"ab", "v\"ay\"bP", "ab", 0, api.ModeNormal, 0, 7}, {"ab", "vf\x1b", "ab", 0, api.ModeNormal, 0, 0},
		{"ab", "vl3", "ab", 1, api.ModeVisual, 0, 0},
	} {
		s := run(t, begin(t, c.s), c.keys)
		if s.Text != c.want || s.Cur != c.cur || s.Mode != c.mode || s.From != c.from || s.Err != c.err {
			t.Errorf("%q %q: %q %d, mode %d, from %d, error %d", c.s, c.keys, s.Text, s.Cur, s.Mode, s.From, s.Err)
		}
	}
	if s := run(t, begin(t, "ab"), "vc"); s.Typed != nil || s.Start != "ab" || s.Mode != api.ModeInsert || reg(s, '-').Text != "a" {
		t.Error(s)
	}
	if s := run(t, begin(t, "ab"), "vld"); len(s.Undo.Nodes) != 2 || s.Undo.Nodes[1].At != 1 {
		t.Error(s.Undo)
	}
}

// P22.2: limits, macros, errors
func TestLimits(t *testing.T) {
	c := conf
	c.Depth, c.Steps, c.Count = 1, 4, 12
	s, _ := New(c, "abcdefgh")
	s = run(t, s, "qaxq")
	if x := run(t, s, "3@a"); x.Err != 0 || x.Text != "efgh" { // the first key is another step
		t.Error(x.Text, x.Err)
	}
	x := run(t, s, "4@")
	if x = run(t, x, "a"); x.Err != int(api.ErrBudget) || x.Text != "bcdefgh" || x.Pend != nil {
		t.Error(x.Text, x.Err)
	}
	if x := run(t, s, "13"); x.Err != int(api.ErrLimit) || x.Pend != nil {
		t.Error(x.Err)
	}
	if x := run(t, s, "4d4w"); x.Err != int(api.ErrLimit) || x.Text != "bcdefgh" {
		t.Error(x.Err)
	}
	x = run(t, s, "qb@aq@b")
	if x.Err != int(api.ErrLimit) || x.Text != "cdefgh" {
		t.Error(x.Text, x.Err)
	}
	if x := run(t, s, "qb.q@b"); x.Err != int(api.ErrLimit) {
		t.Error(x.Err)
	}
	c.Depth = 0
	s, _ = New(c, "abc")
	for _, keys := range []string{"@a", "."} {
		if x := run(t, s, keys); x.Err != int(api.ErrLimit) {
			t.Error(keys, x.Err)
		}
	}
	c = conf
	s, _ = New(c, "abc")
	if x := run(t, s, "qax@aq@a"); x.Err != int(api.ErrLimit) && x.Err != int(api.ErrMove) || x.Text != "bc" {
		t.Error(x.Text, x.Err)
	}
	if x := run(t, s, "qa5lq@a"); x.Err != 0 || x.Cur != 2 {
		t.Error(x.Cur, x.Err)
	}
	x = run(t, s, "qaxxlxxq") // the last x errs, and is recorded
	if x.Text != "" || reg(x, 'a').Text != "xxlxx" {
		t.Error(x.Text, x.Regs)
	}
	c.Bytes = 4
	s, _ = New(c, "abc")
	for keys, err := range map[string]api.Errno{"ixy": api.ErrFull, "yl2p": api.ErrFull, "ylp": api.OK, "o": api.OK, "rä": api.OK, "2rä": api.ErrFull, ">>": api.ErrFull, "yyp": api.ErrFull} {
		if x := run(t, s, keys); x.Err != int(err) {
			t.Error(keys, x.Err)
		}
	}
	x = run(t, s, "ixy")
	if x.Text != "xabc" || x.Mode != api.ModeInsert || x.Cur != 1 || str(x.Typed) != "ix" {
		t.Error(x)
	}
	s.Undo = api.Tree{Nodes: []api.Node{{Parent: -1, Text: "abcde"}, {Seq: 1, Text: "abc"}}, Cur: 1}
	if x := run(t, s, "u"); x.Err != int(api.ErrFull) || x.Text != "abc" {
		t.Error(x)
	}
	s.Undo.Nodes[1].Seq, s.Undo.Cur = api.MaxSeq, api.MaxSeq
	if x := run(t, s, "x"); x.Err != int(api.ErrFull) || x.Text != "abc" {
		t.Error(x)
	}
	s, _ = New(conf, strings.Repeat("x", api.MaxGap))
	if x := run(t, s, "ia"); x.Err != int(api.ErrFull) {
		t.Error(x.Err)
	}
	s, _ = New(conf, strings.Repeat("\n", api.MaxRows-1))
	if x := run(t, s, "o"); x.Err != int(api.ErrFull) || x.Mode != api.ModeNormal {
		t.Error(x.Err)
	}
}

// P22.2: recording
func TestRecording(t *testing.T) {
	s := run(t, begin(t, "abc"), "qa")
	if s.Rec != 'a' || s.Keys != nil {
		t.Error(s)
	}
	for _, k := range []int{0, -1, 0xd800, 1 << 30} { // no runes
		s, _ = Step(s, k)
	}
	s = run(t, s, "z2l\x1b") // z errs
	if str(s.Keys) != "z2l\x1b" || s.Rec != 'a' {
		t.Error(s)
	}
	s = run(t, s, "@q") // errs
	if str(s.Keys) != "z2l\x1b@q" {
		t.Error(s)
	}
	s = run(t, s, "q")
	if s.Rec != 0 || s.Keys != nil || reg(s, 'a').Text != "z2l\x1b@q" {
		t.Error(s)
	}
	s = run(t, begin(t, "abc"), "qa"+strings.Repeat("l\x1b", api.MaxKeys))
	if len(s.Keys) != api.MaxKeys {
		t.Error(len(s.Keys))
	}
	s = begin(t, "abc")
	s.Rec, s.Keys = 'b', []int{'x', 0, -1, 0xd800, 'y'}
	if s = run(t, s, "q"); reg(s, 'b').Text != "xy" {
		t.Error(s)
	}
}

// P22.2, P22.4: what a macro leaves behind
func TestMacros(t *testing.T) {
	s := run(t, begin(t, "abcd"), "qaxmbxq")
	if len(s.Undo.Nodes) != 3 || s.Text != "cd" {
		t.Error(s)
	}
	s = run(t, s, "@a")
	if s.Text != "" || len(s.Undo.Nodes) != 5 || s.Err != 0 || len(s.Marks) != 1 {
		t.Error(s)
	}
	s = run(t, s, "uu")
	was := deep(s)
	s = run(t, s, "2@a") // the second one errs: all is as it was
	was.Err, was.Pend = int(api.ErrMove), nil
	if !reflect.DeepEqual(deep(s), was) {
		t.Errorf("%+v\n%+v", s, was)
	}
	s = begin(t, "abc")
	s.Regs = []api.Reg{{Name: 'a', Text: "ix"}, {Name: 'b', Text: "2d"}}
	if x := run(t, s, "2@a"); x.Mode != api.ModeInsert || x.Text != "xixabc" || str(x.Typed) != "ixix" {
		t.Error(x)
	}
	if x := run(t, s, "@b"); str(x.Pend) != "2d" {
		t.Error(x)
	}
	if x := run(t, s, "@bl"); x.Text != "c" {
		t.Error(x)
	}
}

// P22.2: any keys at all
func TestAnyKeys(t *testing.T) {
	pool := []rune("hjklwbe0$^GgfFtT;,{}%+-_'`dcy><uU~xXsSDCYpPJriaIAoOvVmq@.\"123ab(\x1b\x1b\x1b\x12\n\x08x p")
	for seed := 1; seed < 40; seed++ {
		c := api.Conf{Bytes: 40 + seed, Count: 9, Depth: seed % 4, Steps: 60, Nodes: 2 + seed%7}
		s, e := New(c, "ab (cd) \"e\"\n\n  f, g\nh")
		if e != api.OK {
			t.Fatal(e)
		}
		x := seed
		for range 1500 {
			x = x * 48271 % 0x7fffffff
			s = run(t, s, string(pool[x/7%len(pool)]))
			if len(s.Undo.Nodes) > c.Nodes {
				t.Fatal(len(s.Undo.Nodes))
			}
		}
	}
}

// What is told shares no list with what was handed in, nor within itself.
func TestShares(t *testing.T) {
	s := run(t, begin(t, "ab cd"), "mbqq\"axcw")
	dot, typed, keys := str(s.Dot), str(s.Typed), str(s.Keys)
	_ = append(s.Typed, 'z')
	for i := range s.Typed {
		s.Typed[i] = '!'
	}
	if str(s.Dot) != dot || dot != "\"ax" || str(s.Keys) != keys || typed != "cw" {
		t.Error(s.Dot)
	}
	x, _ := Step(s, 'x')
	for i := range s.Keys {
		s.Keys[i] = 0
	}
	s.Marks[0].At, s.Regs[0].Text, s.Undo.Nodes[0].At = 1, "?", 77
	if str(x.Keys) != "\"axcwx" || x.Undo.Nodes[0].At == 77 || x.Regs[0].Text == "?" {
		t.Error(x)
	}
}
