package order

import (
	"slices"
	"strings"
	"testing"

	"quill/api"
)

func id(time, site int) api.ID { return api.ID{Time: time, Site: site} }

func elem(time, site int, r rune) api.Elem { return api.Elem{ID: id(time, site), Rune: int(r)} }

func ins(a, after api.ID, r rune) api.Op {
	return api.Op{Kind: api.OpInsert, ID: a, After: after, Rune: int(r), Site: 1, N: 1, Seen: make([]int, api.MaxSites)}
}

func del(a api.ID) api.Op {
	return api.Op{Kind: api.OpDelete, ID: a, Site: 1, N: 1, Seen: make([]int, api.MaxSites)}
}

func many(n int) []api.Elem {
	var l []api.Elem
	for i := range n {
		l = append(l, elem(i/2+1, i%2, 'x'))
	}
	return l
}

// P24.1
func TestCheckTextWhere(t *testing.T) {
	l := []api.Elem{elem(1, 0, 'a'), elem(api.MaxTime, api.MaxSites, '\n'), elem(1, 1, 0x10ffff)}
	l[1].Dead = true
	if s, e := Text(l); Check(l) != api.OK || s != "a\U0010ffff" || e != api.OK {
		t.Error(s, e)
	}
	if s, e := Text(nil); Check(nil) != api.OK || s != "" || e != api.OK || Check(many(api.MaxOps)) != api.OK {
		t.Error(s, e)
	}
	for i, want := range []int{0, 1, 1} {
		if n, e := Where(l, l[i].ID); n != want || e != api.OK {
			t.Error(i, n, e)
		}
	}
	for _, a := range []api.ID{{}, id(2, 0), id(-1, 7), id(1, 2)} {
		if n, e := Where(l, a); n != 0 || e != api.ErrNone {
			t.Error(a, n, e)
		}
	}
	for i, l := range [][]api.Elem{{elem(0, 1, 'a')}, {elem(-1, 1, 'a')}, {elem(api.MaxTime+1, 0, 'a')}, {elem(1, -1, 'a')}, {elem(1, api.MaxSites+1, 'a')}, {elem(1, 1, 0)}, {elem(1, 1, -1)}, {elem(1, 1, 0xd800)}, {elem(1, 1, 0x110000)}, {{ID: id(1, 1), Rune: 1<<32 + 'a'}}, {elem(1, 1, 'a'), elem(2, 1, 'a'), elem(1, 1, 'b')}, many(api.MaxOps + 1)} {
		s, e := Text(l)
		n, f := Where(l, id(1, 1))
		x, g := Do(l, del(id(1, 1)))
		if Check(l) != api.ErrForm || s != "" || e != api.ErrForm || n != 0 || f != api.ErrForm || x != nil || g != api.ErrForm {
			t.Error(i, e, f, g)
		}
	}
}

// P24.1
func TestMay(t *testing.T) {
	for i, o := range []api.Op{ins(id(1, 0), api.ID{}, 'a'), ins(id(2, 1), id(1, 4), '\n'), ins(id(2, 1), id(2, 0), 0x10ffff), del(id(api.MaxTime, 4)), {Kind: api.OpDelete, ID: id(1, 1), Site: api.MaxSites, N: api.MaxOps, Seen: []int{api.MaxOps, 0, 0, 1}}} {
		if May(o) != api.OK {
			t.Error(i, o)
		}
	}
	for i, f := range []func(o *api.Op){
		func(o *api.Op) { o.Kind = api.OpNone }, func(o *api.Op) { o.Kind = 3 }, func(o *api.Op) { o.Kind = api.OpDelete }, func(o *api.Op) { o.Kind = api.OpDelete; o.Rune = 0 }, func(o *api.Op) { o.ID.Time = 0 }, func(o *api.Op) { o.ID.Time = api.MaxTime + 1 }, func(o *api.Op) { o.ID.Site = -1 }, func(o *api.Op) { o.ID.Site = 5 },
		func(o *api.Op) { o.After = o.ID }, func(o *api.Op) { o.After.Site = 2 }, func(o *api.Op) { o.After = id(4, 0) }, func(o *api.Op) { o.After = id(0, 1) }, func(o *api.Op) { o.After = id(1, 5) }, func(o *api.Op) { o.After = id(-1, 0) }, func(o *api.Op) { o.Rune = 0 }, func(o *api.Op) { o.Rune = 0xdfff }, func(o *api.Op) { o.Rune = 0x110000 }, func(o *api.Op) { o.Rune = -1 },
		func(o *api.Op) { o.Site = 0 }, func(o *api.Op) { o.Site = 5 }, func(o *api.Op) { o.N = 0 }, func(o *api.Op) { o.N = api.MaxOps + 1 }, func(o *api.Op) { o.Seen = nil }, func(o *api.Op) { o.Seen = make([]int, 3) }, func(o *api.Op) { o.Seen = make([]int, 5) }, func(o *api.Op) { o.Seen[3] = -1 }, func(o *api.Op) { o.Seen[0] = api.MaxOps + 1 },
	} {
		o := ins(id(3, 1), id(3, 0), 'a')
		f(&o)
		x, e := Do(nil, o)
		y, g := Walk([]api.Op{o})
		if May(o) != api.ErrForm || x != nil || e != api.ErrForm || y != nil || g != api.ErrForm {
			t.Error(i, e, g)
		}
	}
}

// P24.2
func TestDo(t *testing.T) {
	l := []api.Elem{elem(1, 0, 'a'), elem(5, 2, 'b'), elem(4, 1, 'c'), elem(2, 0, 'd')}
	for _, c := range []struct {
		o  api.Op
		at int
	}{
		{ins(id(6, 1), api.ID{}, 'x'), 0}, {ins(id(6, 1), id(1, 0), 'x'), 1}, {ins(id(5, 1), id(1, 0), 'x'), 2}, {ins(id(5, 3), id(1, 0), 'x'), 1}, {ins(id(3, 1), id(1, 0), 'x'), 3}, {ins(id(1, 4), id(1, 0), 'x'), 4}, {ins(id(3, 1), id(2, 0), 'x'), 4}, {ins(id(1, 1), api.ID{}, 'x'), 0},
	} {
		old := slices.Clone(l)
		x, e := Do(l, c.o)
		want := slices.Insert(slices.Clone(l), c.at, api.Elem{ID: c.o.ID, Rune: 'x'})
		if !slices.Equal(x, want) || e != api.OK || !slices.Equal(l, old) {
			t.Error(c.o.ID, x, e)
		}
	}
	for i, a := range []api.ID{id(1, 0), id(5, 2), id(4, 1), id(2, 0)} {
		x, e := Do(l, del(a))
		y, f := Do(x, del(a))
		want := slices.Clone(l)
		want[i].Dead = true
		if !slices.Equal(x, want) || !slices.Equal(y, want) || e != api.OK || f != api.OK || l[i].Dead {
			t.Error(i, x, e, f)
		}
	}
	for i, c := range []struct {
		l []api.Elem
		o api.Op
		e api.Errno
	}{
		{l, ins(id(5, 2), id(3, 3), 'x'), api.ErrBad}, {l, ins(id(1, 0), api.ID{}, 'x'), api.ErrBad}, {l, ins(id(5, 1), id(3, 3), 'x'), api.ErrNone}, {l, del(id(3, 3)), api.ErrNone}, {nil, del(id(3, 3)), api.ErrNone}, {many(api.MaxOps), ins(id(9000, 1), id(8000, 1), 'x'), api.ErrNone}, {many(api.MaxOps), ins(id(9000, 1), id(1, 1), 'x'), api.ErrFull}, {many(api.MaxOps), ins(id(1, 1), api.ID{}, 'x'), api.ErrBad},
	} {
		if x, e := Do(c.l, c.o); x != nil || e != c.e {
			t.Error(i, e)
		}
	}
}

// P24.2
func TestFirst(t *testing.T) {
	if l, e := First("ä\nb"); !slices.Equal(l, []api.Elem{elem(1, 0, 'ä'), elem(2, 0, '\n'), elem(3, 0, 'b')}) || e != api.OK {
		t.Error(l, e)
	}
	if l, e := First(strings.Repeat("世", api.MaxMine)); len(l) != api.MaxMine || Check(l) != api.OK || e != api.OK {
		t.Error(len(l), e)
	}
	if l, e := First(strings.Repeat("x", api.MaxMine+1)); l != nil || e != api.ErrFull {
		t.Error(len(l), e)
	}
	for _, s := range []string{"\xff", "\x00", strings.Repeat("x", api.MaxBytes+1)} {
		if l, e := First(s); l != nil || e != api.ErrForm {
			t.Error(e)
		}
	}
}

// P24.3, P24.4, T3: all stand so, in whatever order they are done
func TestWalk(t *testing.T) {
	if x, e := Walk([]api.Op{ins(id(1, 1), api.ID{}, 'a'), ins(id(1, 2), api.ID{}, 'b'), ins(id(2, 1), id(1, 1), 'c'), ins(id(3, 0), id(1, 1), 'd')}); !slices.Equal(x, []api.Elem{elem(1, 2, 'b'), elem(1, 1, 'a'), elem(3, 0, 'd'), elem(2, 1, 'c')}) || e != api.OK {
		t.Error(x, e)
	}
	if x, e := Walk(nil); len(x) != 0 || e != api.OK {
		t.Error(x, e)
	}
	seed := 5
	random := func(n int) int {
		seed = seed * 48271 % 0x7fffffff
		return seed / 7 % n
	}
	for range 100 {
		l := []api.Op{}
		used := map[api.ID]int{}
		for i := range 40 {
			o := ins(id(1+i/3+random(3), random(5)), api.ID{}, rune('a'+random(26)))
			if len(l) > 0 && random(4) > 0 {
				o.After = l[random(len(l))].ID
			}
			if used[o.ID] == 0 && May(o) == api.OK {
				used[o.ID] = 1
				l = append(l, o)
			}
		}
		want, e := Walk(l)
		if e != api.OK {
			t.Fatal(e)
		}
		for range 5 { // in any order that has each behind its After
			var x []api.Elem
			left := slices.Clone(l)
			for len(left) > 0 {
				i := random(len(left))
				if y, e := Do(x, left[i]); e == api.OK {
					x = y
					left = slices.Delete(left, i, i+1)
				} else if e != api.ErrNone {
					t.Fatal(e)
				}
			}
			if !slices.Equal(x, want) {
				t.Fatalf("%v\n%v", x, want)
			}
		}
		slices.Reverse(l)
		if x, _ := Walk(l); !slices.Equal(x, want) {
			t.Fatal(x)
		}
	}
}

// P24.3
func TestWalkWrong(t *testing.T) {
	var long, chain []api.Op
	for i := range api.MaxOps + 1 {
		long = append(long, ins(id(i+1, 0), api.ID{}, 'x'))
		chain = append(chain, ins(id(i+1, 0), id(i, 0), 'x'))
	}
	if x, e := Walk(chain[:api.MaxOps]); len(x) != api.MaxOps || e != api.OK {
		t.Error(len(x), e)
	}
	for i, l := range [][]api.Op{long, {del(id(1, 1))}, {ins(id(1, 1), api.ID{}, 'a'), ins(id(1, 1), api.ID{}, 'a')}, {ins(id(2, 1), id(1, 1), 'a')}, {ins(id(1, 1), api.ID{}, 'a'), {}}} {
		if x, e := Walk(l); x != nil || e != api.ErrForm {
			t.Error(i, e)
		}
	}
}
