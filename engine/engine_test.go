package engine

import (
	"reflect"
	"slices"
	"strings"
	"sync"
	"testing"

	"quill/api"
	"quill/model"
	"quill/patch"
	"quill/undo"
)

var conf = api.Conf{Bytes: api.MaxBytes, Count: api.MaxCount, Depth: api.MaxDepth, Steps: api.MaxSteps, Nodes: api.MaxNodes}

// same tells whether two editors are the same; a nil list and an empty one are one.
func same(a, b api.State) bool {
	return reflect.DeepEqual(full(a), full(b))
}

func full(s api.State) api.State {
	s.Pend, s.Dot, s.Typed, s.Keys = append([]int{}, s.Pend...), append([]int{}, s.Dot...), append([]int{}, s.Typed...), append([]int{}, s.Keys...)
	s.Regs, s.Marks, s.Undo.Nodes = append([]api.Reg{}, s.Regs...), append([]api.Mark{}, s.Marks...), append([]api.Node{}, s.Undo.Nodes...)
	return s
}

// P23.1
func TestNew(t *testing.T) {
	g, e := New(conf, "äb\n")
	want, _ := model.New(conf, "äb\n")
	if e != api.OK || !same(g.State(), want) || g.Text() != "äb\n" || g.Steps() != 0 {
		t.Error(e, g.State())
	}
	for _, s := range []string{"\xff", "\x00", strings.Repeat("x", api.MaxGap+1)} {
		if g, e := New(conf, s); g != nil || e != api.ErrForm {
			t.Error(e)
		}
	}
	if g, e := New(api.Conf{}, ""); g != nil || e != api.ErrForm {
		t.Error(e)
	}
	c := conf
	c.Bytes = 1
	if g, e := New(c, "ä"); g != nil || e != api.ErrForm {
		t.Error(e)
	}
}

// P23.2
func TestKeys(t *testing.T) {
	g, _ := New(conf, "")
	if e := g.Keys("ix"); e != api.OK || g.Text() != "x" || g.Steps() != 2 {
		t.Error(e, g.Text())
	}
	if e := g.Keys("世\xff\xc3"); e != api.ErrKey || g.Text() != "x世" || g.Steps() != 5 {
		t.Error(e, g.Text())
	}
	if e := g.Keys("\ufffd"); e != api.OK || g.Text() != "x世\ufffd" {
		t.Error(e, g.Text())
	}
	if e := g.Keys("\x1bzw"); e != api.ErrMove || g.Steps() != 9 {
		t.Error(e, g.Steps())
	}
	if e := g.Key('z'); e != api.ErrKey || g.State().Err != int(api.ErrKey) || g.Steps() != 10 {
		t.Error(e)
	}
	if e := g.Keys(""); e != api.OK || g.Steps() != 10 {
		t.Error(e)
	}
}

// P23.1: what is told is a copy
func TestCopies(t *testing.T) {
	g, _ := New(conf, "abc")
	g.Keys("xmaqqxd")
	want := full(g.State())
	s := g.State()
	s.Regs[0].Text, s.Marks[0].At, s.Dot[0], s.Keys[0], s.Pend[0], s.Undo.Nodes[0].Text = "?", 9, 9, 9, 9, "?"
	_ = append(s.Keys, 9)
	if !same(g.State(), want) {
		t.Error(g.State())
	}
}

// P23.4, T1, T2, T5: behind each key the engine is what the model is
func TestAsModel(t *testing.T) {
	pool := []rune("hjklwbe0$^GgfFtT;,{}%+-_'`dcy><uU~xXsSDCYpPJriaIAoOvVmq@.\"123ab(\x1b\x1b\x1b\x12\n\x08x pgu-+@aqa")
	for seed := 1; seed < 40; seed++ {
		c := api.Conf{Bytes: 50 + seed, Count: 9, Depth: seed % 5, Steps: 90, Nodes: 2 + seed%7}
		g, _ := New(c, "ab (cd) \"e\"\n\n  f, g\nh")
		want := g.State()
		x := seed
		for i := range 1200 {
			x = x * 48271 % 0x7fffffff
			k := int(pool[x/7%len(pool)])
			if x%97 == 0 {
				k = x%7 - 3
			}
			want, _ = model.Step(want, k)
			if e := g.Key(k); int(e) != want.Err || !same(g.State(), want) || g.Text() != want.Text || g.Steps() != i+1 {
				t.Fatalf("%c: %v\n%+v\n%+v", k, e, g.State(), want)
			}
			if here, _ := undo.Here(want.Undo); want.Mode != api.ModeInsert && here != want.Text || len(want.Text) > c.Bytes {
				t.Fatal(want)
			}
		}
	}
}

// P23.2: Dot of what leads into insert, as the model has it
func TestDot(t *testing.T) {
	for _, keys := range []string{"cw", "cc", "s", "S", "C", "\"a2cw"} {
		g, _ := New(conf, "ab cd")
		g.Keys("x")
		for _, k := range keys + "z" {
			if e := g.Key(int(k)); e != api.OK || !slices.Equal(g.State().Dot, []int{'x'}) {
				t.Errorf("%q, %c: %v %v", keys, k, e, g.State().Dot)
			}
		}
		want := []int{}
		for _, k := range keys + "z\x1b" {
			want = append(want, int(k))
		}
		if e := g.Key(27); e != api.OK || !slices.Equal(g.State().Dot, want) {
			t.Errorf("%q: %v %v", keys, e, g.State().Dot)
		}
	}
}

// P23.3
func TestPatch(t *testing.T) {
	g, _ := New(conf, "abcdef")
	g.Keys("xlllmahmbzqq") // b at 2, a at 3, the cursor at 2
	was := g.State()
	if was.Text != "bcdef" || was.Cur != 2 || was.Err != 0 {
		t.Fatal(was)
	}
	p := api.Patch{At: 1, Del: 2, Ins: "ä\n世"}
	if e := g.Patch(p); e != api.OK {
		t.Fatal(e)
	}
	want := full(was)
	want.Text, want.Cur, want.Marks = "bä\n世ef", 1, []api.Mark{{Name: 'a', At: 4}}
	want.Undo, _ = undo.New(want.Text)
	if !same(g.State(), want) || model.Check(g.State()) != api.OK || g.Steps() != 12 {
		t.Errorf("%+v\n%+v", g.State(), want)
	}
	for _, p := range []api.Patch{{At: -1}, {At: 7}, {Del: 8}, {Ins: "\xff"}, {Ins: "\x00"}} {
		if e := g.Patch(p); e != api.ErrForm || !same(g.State(), want) {
			t.Error(p, e)
		}
	}
	for _, p := range []api.Patch{{Ins: strings.Repeat("x", api.MaxBytes)}, {Ins: strings.Repeat("x", api.MaxGap)}, {Ins: strings.Repeat("\n", api.MaxRows-1)}} {
		if e := g.Patch(p); e != api.ErrFull || !same(g.State(), want) {
			t.Error(e)
		}
	}
	for _, keys := range []string{"2", "\x1bi", "\x1bv", "\x1bV", "\x1bd"} {
		g.Keys(keys)
		was := g.State()
		for _, p := range []api.Patch{{}, {At: -1}} {
			if e := g.Patch(p); e != api.ErrBusy || !same(g.State(), was) {
				t.Error(keys, e)
			}
		}
	}
	g.Keys("\x1bqG$")
	if e := g.Patch(api.Patch{At: 3, Del: 3}); e != api.OK || g.Text() != "bä\n" || g.State().Cur != 3 {
		t.Error(e, g.State())
	}
	if e := g.Keys("u"); e != api.ErrMove {
		t.Error(e)
	}
	c := conf
	c.Bytes = 3
	g, _ = New(c, "abc")
	if e := g.Patch(api.Patch{Ins: "x"}); e != api.ErrFull || g.Text() != "abc" {
		t.Error(e)
	}
}

// P23.3: patches and keys by turns
func TestPatchesAndKeys(t *testing.T) {
	g, _ := New(conf, "ab\ncd")
	for i, keys := range []string{"x", "ddP", "ihello\x1b", "yyp", "u", "vly", "G.", "ma"} {
		g.Keys(keys)
		s := g.State()
		n := len([]rune(s.Text))
		p := api.Patch{At: i % (n + 1), Ins: "x\ny"[:i%4]}
		next, _ := patch.Apply(s.Text, p)
		if e := g.Patch(p); e != api.OK || g.Text() != next || model.Check(g.State()) != api.OK || len(g.State().Undo.Nodes) != 1 {
			t.Error(keys, e, g.State())
		}
		if !slices.Equal(g.State().Regs, s.Regs) {
			t.Error(keys)
		}
	}
}

// Editors that are made and used at a time have nothing in common.
func TestTogether(t *testing.T) {
	var w sync.WaitGroup
	for i := range 8 {
		w.Go(func() {
			g, _ := New(conf, "abc")
			for range i + 1 {
				g.Keys("ix\x1bvly")
			}
			if g.Text() != strings.Repeat("x", i+1)+"abc" || g.Steps() != 6*(i+1) {
				t.Error(i, g.Text())
			}
		})
	}
	w.Wait()
}
