package site

import (
	"reflect"
	"slices"
	"strings"
	"testing"

	"quill/api"
	"quill/codec"
	"quill/model"
	"quill/order"
)

var conf = api.Conf{Bytes: api.MaxBytes, Count: api.MaxCount, Depth: api.MaxDepth, Steps: api.MaxSteps, Nodes: api.MaxNodes}

func id(time, site int) api.ID { return api.ID{Time: time, Site: site} }

func begin(t *testing.T, n int, s string) *Site {
	t.Helper()
	x, e := New(conf, n, s)
	if e != api.OK {
		t.Fatal(e)
	}
	return x
}

// typed types keys, and tells all messages.
func typed(x *Site, keys string) (l []string) {
	for _, k := range keys {
		m, _ := x.Key(int(k))
		l = append(l, m...)
	}
	return l
}

// agrees looks whether the editor's text is the shared one. P28.4
func agrees(t *testing.T, x *Site) {
	t.Helper()
	s, e := order.Text(x.Data().Doc)
	if e != api.OK || s != x.State().Text || model.Check(x.State()) != api.OK {
		t.Fatalf("%q, %q", s, x.State().Text)
	}
}

func message(t *testing.T, o api.Op) string {
	t.Helper()
	s, e := codec.Bytes(o)
	if e != api.OK {
		t.Fatal(e, o)
	}
	return s
}

// P28.1
func TestNew(t *testing.T) {
	x := begin(t, 3, "äb\n")
	want, _ := model.New(conf, "äb\n")
	doc, _ := order.First("äb\n")
	d := x.Data()
	if !reflect.DeepEqual(x.State(), want) || d.Site != 3 || d.Clock != 3 || !slices.Equal(d.Doc, doc) || !slices.Equal(d.Seen, []int{0, 0, 0, 0}) || len(d.Wait)+len(d.Log) != 0 {
		t.Error(x.State(), d)
	}
	d.Doc[0].Rune, d.Seen[0] = 'x', 9
	x.State().Undo.Nodes[0].Text = "?"
	if !reflect.DeepEqual(x.State(), want) || !slices.Equal(x.Data().Doc, doc) || x.Data().Seen[0] != 0 {
		t.Error("shared")
	}
	less := conf
	less.Bytes--
	for i, c := range []struct {
		c api.Conf
		n int
		s string
		e api.Errno
	}{
		{conf, 0, "", api.ErrForm}, {conf, api.MaxSites + 1, "", api.ErrForm}, {less, 1, "", api.ErrForm}, {api.Conf{}, 1, "", api.ErrForm}, {conf, 1, "\xff", api.ErrForm}, {conf, 1, strings.Repeat("x", api.MaxGap+1), api.ErrForm}, {less, 1, strings.Repeat("x", 300), api.ErrForm}, {conf, 1, strings.Repeat("x", api.MaxMine+1), api.ErrFull},
	} {
		if x, e := New(c.c, c.n, c.s); x != nil || e != c.e {
			t.Error(i, e)
		}
	}
}

// P28.2
func TestKey(t *testing.T) {
	x := begin(t, 2, "ab")
	if l, e := x.Key('i'); l != nil || e != api.OK {
		t.Error(l, e)
	}
	l, e := x.Key('ä')
	want := []string{message(t, api.Op{Kind: api.OpInsert, ID: id(3, 2), Rune: 'ä', Site: 2, N: 1, Seen: []int{0, 0, 0, 0}})}
	if !slices.Equal(l, want) || e != api.OK {
		t.Errorf("%q %v", l, e)
	}
	if l, e := x.Key(-1); l != nil || e != api.ErrKey {
		t.Error(l, e)
	}
	x.Key(27)
	x.Key('2')
	l, e = x.Key('s')
	want = []string{message(t, api.Op{Kind: api.OpDelete, ID: id(3, 2), Site: 2, N: 2, Seen: []int{0, 1, 0, 0}}), message(t, api.Op{Kind: api.OpDelete, ID: id(1, 0), Site: 2, N: 3, Seen: []int{0, 2, 0, 0}})}
	if !slices.Equal(l, want) || e != api.OK {
		t.Errorf("%q %v", l, e)
	}
	d := x.Data()
	if d.Clock != 5 || !slices.Equal(d.Seen, []int{0, 3, 0, 0}) || len(d.Log) != 3 || x.State().Text != "b" {
		t.Error(d)
	}
	agrees(t, x)
	if l := typed(x, "xy\x1bu"); len(l) != 6 || x.State().Text != "äab" { // undo is a change, too
		t.Error(len(l), x.State().Text)
	}
	agrees(t, x)
}

// P28.2: Dot of what leads into insert, as the model has it
func TestDot(t *testing.T) {
	x := begin(t, 1, "ab cd")
	typed(x, "xcwz")
	if s := x.State(); !slices.Equal(s.Dot, []int{'x'}) || s.Text != "zcd" {
		t.Error(s.Dot, s.Text)
	}
	if l, e := x.Key(27); l != nil || e != api.OK || !slices.Equal(x.State().Dot, []int{'c', 'w', 'z', 27}) {
		t.Error(l, e, x.State().Dot)
	}
	agrees(t, x)
}

// P28.2: no room: the editor is as an error by hand leaves it
func TestKeyFull(t *testing.T) {
	x := begin(t, 1, "abc")
	typed(x, "qqi"+strings.Repeat("x", api.MaxMine-1)+"\x1bqqq")
	typed(x, "ylv")
	was, data := x.State(), x.Data()
	if l, e := x.Key('p'); l != nil || e != api.ErrKey { // no command there
		t.Error(l, e)
	}
	typed(x, "2")
	was = x.State()
	l, e := x.Key('p') // two more, where there is room for one
	want := was
	want.Err, want.Pend, want.Keys = int(api.ErrFull), nil, append(slices.Clone(was.Keys), 'p')
	if got := x.State(); l != nil || e != api.ErrFull || !reflect.DeepEqual(got, want) || !reflect.DeepEqual(x.Data(), data) {
		t.Errorf("%v %v\n%+v\n%+v", l, e, got, want)
	}
	if l, e := x.Key('p'); len(l) != 1 || e != api.OK || len(x.State().Text) != api.MaxMine+3 {
		t.Error(l, e)
	}
	typed(x, "i")
	was, data = x.State(), x.Data()
	l, e = x.Key('x')
	want = was
	want.Err, want.Keys = int(api.ErrFull), append(slices.Clone(was.Keys), 'x')
	if got := x.State(); l != nil || e != api.ErrFull || !reflect.DeepEqual(got, want) || !reflect.DeepEqual(x.Data(), data) {
		t.Errorf("%v %v\n%+v\n%+v", l, e, got, want)
	}
	typed(x, "\x1bvl")
	was = x.State()
	l, e = x.Key('U') // in the place of a letter comes another one
	if got := x.State(); l != nil || e != api.ErrFull || got.Mode != api.ModeNormal || got.From != 0 || got.Text != was.Text || got.Cur != was.Cur || !reflect.DeepEqual(got.Undo, was.Undo) {
		t.Errorf("%v %v %+v", l, e, got)
	}
	if l, e := x.Key('x'); len(l) != 1 || e != api.OK { // there is always room to delete
		t.Error(l, e)
	}
	agrees(t, x)
}

// P28.3
func TestTake(t *testing.T) {
	a, b := begin(t, 1, "ab"), begin(t, 2, "ab")
	l := typed(a, "ix\x1b$x")
	if len(l) != 2 {
		t.Fatal(l)
	}
	for _, s := range []string{"", "x", l[0][1:], strings.Repeat("\x00", 21)} {
		if e := b.Take(s); e != api.ErrBad {
			t.Error(e)
		}
	}
	for _, keys := range []string{"i", "\x1bv", "\x1bV", "\x1b2", "\x1bd"} {
		typed(b, keys)
		was := b.State()
		if e := b.Take(l[0]); e != api.ErrBusy || !reflect.DeepEqual(b.State(), was) {
			t.Error(keys, e)
		}
		if e := b.Take("x"); e != api.ErrBad {
			t.Error(keys, e)
		}
	}
	typed(b, "\x1b")
	if e := b.Take(l[1]); e != api.OK || b.State().Text != "ab" || len(b.Data().Wait) != 1 {
		t.Error(e, b.Data())
	}
	if e := b.Take(l[0]); e != api.OK || b.State().Text != "xa" || len(b.Data().Wait) != 0 || !slices.Equal(b.Data().Seen, []int{2, 0, 0, 0}) || b.Data().Clock != 3 {
		t.Error(e, b.Data())
	}
	agrees(t, b)
	was := b.Data()
	for _, s := range l { // twice
		if e := b.Take(s); e != api.OK || !reflect.DeepEqual(b.Data(), was) {
			t.Error(e)
		}
	}
	mine := typed(b, "x")
	if e := b.Take(mine[0]); e != api.OK || len(b.Data().Log) != 3 { // its own
		t.Error(e)
	}
	if e := a.Take(mine[0]); e != api.OK || a.State().Text != b.State().Text {
		t.Error(e, a.State().Text, b.State().Text)
	}
	s := b.State()
	dead := message(t, api.Op{Kind: api.OpDelete, ID: id(2, 0), Site: 3, N: 1, Seen: []int{0, 0, 0, 0}})
	if e := b.Take(dead); e != api.OK || !reflect.DeepEqual(b.State(), s) || b.Data().Seen[2] != 1 { // it changes nothing
		t.Error(e)
	}
}

// P28.3: what is refused
func TestTakeBad(t *testing.T) {
	x := begin(t, 1, "ab")
	typed(x, "ma")
	seen := []int{0, 0, 0, 0}
	late := message(t, api.Op{Kind: api.OpInsert, ID: id(4, 2), Rune: 'y', Site: 2, N: 2, Seen: seen})
	if e := x.Take(late); e != api.OK {
		t.Error(e)
	}
	was := x.State()
	// its first op is behind what is nowhere; its second one is done all the same
	if e := x.Take(message(t, api.Op{Kind: api.OpInsert, ID: id(3, 2), After: id(2, 4), Rune: 'x', Site: 2, N: 1, Seen: seen})); e != api.ErrBad || x.State().Text != "yab" {
		t.Error(e, x.State())
	}
	if d := x.Data(); len(d.Log) != 1 || len(d.Doc) != 3 || len(d.Wait) != 0 || !slices.Equal(d.Seen, []int{0, 2, 0, 0}) {
		t.Error(d)
	}
	if s := x.State(); s.Marks[0].At != was.Marks[0].At || len(s.Undo.Nodes) != 1 {
		t.Error(s)
	}
	agrees(t, x)
	clock := x.Data().Clock
	if e := x.Take(message(t, api.Op{Kind: api.OpDelete, ID: id(9999, 2), Site: 2, N: 3, Seen: seen})); e != api.ErrBad || x.Data().Clock != clock || x.Data().Seen[1] != 3 || len(x.Data().Log) != 1 {
		t.Error(e, x.Data())
	}
	if e := x.Take(message(t, api.Op{Kind: api.OpInsert, ID: id(4, 2), Rune: 'y', Site: 2, N: 4, Seen: seen})); e != api.ErrBad || x.Data().Seen[1] != 4 {
		t.Error(e, x.Data())
	}
}

// P28.3: a text that an editor may not have is refused
func TestTakeTooMuch(t *testing.T) {
	x := begin(t, 1, "")
	for n := 1; n <= api.MaxGap+3; n++ {
		o := api.Op{Kind: api.OpInsert, ID: id(n, 2), Rune: 'x', Site: 2, N: n, Seen: []int{0, 0, 0, 0}}
		if n > 1 && n <= api.MaxGap {
			o.After = id(n-1, 2)
		}
		if n == api.MaxGap+2 {
			o.Rune = '\n'
		}
		want := api.OK
		if n == api.MaxGap+1 {
			want = api.ErrBad
		}
		if e := x.Take(message(t, o)); e != want || x.Data().Seen[1] != n {
			t.Fatal(n, e)
		}
	}
	d := x.Data()
	if len(d.Doc) != api.MaxGap+2 || len(d.Log) != api.MaxGap+2 || x.State().Text != "x\n"+strings.Repeat("x", api.MaxGap) {
		t.Error(len(d.Doc), len(d.Log))
	}
	agrees(t, x)
}

// P28.3: no room to wait
func TestTakeFull(t *testing.T) {
	x := begin(t, 1, "")
	for n := 2; n <= api.MaxOps; n++ {
		for site := 1; site <= 4; site++ {
			x.rest.Wait = append(x.rest.Wait, api.Op{Kind: api.OpDelete, ID: id(1, 0), Site: site, N: n, Seen: []int{0, 0, 0, 0}})
		}
	}
	x.rest.Wait = append(x.rest.Wait, x.rest.Wait[:4]...)
	was := x.Data()
	if e := x.Take(message(t, api.Op{Kind: api.OpInsert, ID: id(1, 2), Rune: 'x', Site: 2, N: 1, Seen: []int{0, 0, 0, 0}})); e != api.ErrFull || !reflect.DeepEqual(x.Data(), was) {
		t.Error(e)
	}
}

// P28.4, T3, T4: sites that did the same ops have the same text
func TestSame(t *testing.T) {
	pool := []rune("ix\x1bay\n\x1bxdwu.p~J>>ggwjcwz\x1boyyPvd\x12qaq@a")
	for seed := 1; seed < 12; seed++ {
		sites := []*Site{begin(t, 1, "ab cd\nef"), begin(t, 2, "ab cd\nef"), begin(t, 4, "ab cd\nef")}
		var lists [3][]string
		r := seed
		random := func(n int) int {
			r = r * 48271 % 0x7fffffff
			return r / 7 % n
		}
		for range 500 {
			i := random(3)
			if random(2) == 0 {
				l, _ := sites[i].Key(int(pool[random(len(pool))]))
				for k := range lists {
					if k != i {
						lists[k] = append(lists[k], l...)
					}
				}
			} else if n := len(lists[i]); n > 0 {
				k := random(n)
				if e := sites[i].Take(lists[i][k]); e == api.OK {
					lists[i] = slices.Delete(lists[i], k, k+1)
				} else if e != api.ErrBusy {
					t.Fatal(e)
				}
			}
			agrees(t, sites[i])
		}
		for i, x := range sites {
			x.Key(27)
			for _, s := range lists[i] {
				if e := x.Take(s); e != api.OK {
					t.Fatal(e)
				}
			}
			agrees(t, x)
			if d := x.Data(); len(d.Wait) > 0 {
				t.Fatal(d)
			}
		}
		for _, x := range sites[1:] {
			if d := x.Data(); !slices.Equal(d.Doc, sites[0].Data().Doc) || !slices.Equal(d.Seen, sites[0].Data().Seen) || x.State().Text != sites[0].State().Text {
				t.Fatalf("%q %q", x.State().Text, sites[0].State().Text)
			}
		}
	}
}
