package lower

import (
	"reflect"
	"slices"
	"strings"
	"testing"

	"quill/api"
	"quill/order"
	"quill/own"
	"quill/patch"
)

func id(time, site int) api.ID { return api.ID{Time: time, Site: site} }

func elem(time, site int, r rune) api.Elem { return api.Elem{ID: id(time, site), Rune: int(r)} }

func dead(time, site int, r rune) api.Elem {
	return api.Elem{ID: id(time, site), Rune: int(r), Dead: true}
}

// sample has "abc", and dead elements ahead of b and behind c.
func sample() api.Site {
	return api.Site{Site: 2, Clock: 7, Doc: []api.Elem{elem(1, 0, 'a'), dead(4, 2, 'x'), elem(2, 0, 'b'), elem(7, 1, 'c'), dead(3, 0, 'y')}, Seen: []int{3, 2, 0, 0}}
}

func ins(a, after api.ID, r rune, site, n int, seen ...int) api.Op {
	return api.Op{Kind: api.OpInsert, ID: a, After: after, Rune: int(r), Site: site, N: n, Seen: seen}
}

func del(a api.ID, site, n int, seen ...int) api.Op {
	return api.Op{Kind: api.OpDelete, ID: a, Site: site, N: n, Seen: seen}
}

func zero() []int { return make([]int, api.MaxSites) }

// P27.1
func TestCheck(t *testing.T) {
	many := slices.Repeat([]api.Op{del(id(1, 0), 1, 1, 0, 0, 0, 0)}, 4*api.MaxOps+1)
	full := sample()
	full.Wait, full.Log, full.Clock, full.Seen = many[1:], many[1:], api.MaxTime, []int{0, 0, 0, api.MaxOps}
	for i, x := range []api.Site{sample(), {Site: 1, Seen: zero()}, full} {
		if e := Check(x); e != api.OK {
			t.Error(i, e)
		}
	}
	for i, f := range []func(x *api.Site){
		func(x *api.Site) { x.Site = 0 }, func(x *api.Site) { x.Site = 5 }, func(x *api.Site) { x.Clock = -1 }, func(x *api.Site) { x.Clock = 6 }, func(x *api.Site) { x.Clock = api.MaxTime + 1 }, func(x *api.Site) { x.Doc[0].Rune = 0 }, func(x *api.Site) { x.Doc[0].ID = x.Doc[1].ID }, func(x *api.Site) { x.Seen = nil }, func(x *api.Site) { x.Seen = x.Seen[1:] }, func(x *api.Site) { x.Seen[0] = -1 }, func(x *api.Site) { x.Seen[0] = api.MaxOps + 1 },
		func(x *api.Site) { x.Wait = many }, func(x *api.Site) { x.Log = many }, func(x *api.Site) { x.Wait = []api.Op{{}} }, func(x *api.Site) { x.Log = []api.Op{{}} },
	} {
		x := sample()
		f(&x)
		l, y, e := Down(x, api.Patch{})
		p, z, g := Up(x, del(id(1, 0), 1, 4, 0, 0, 0, 0))
		if Check(x) != api.ErrForm || l != nil || !reflect.DeepEqual(y, api.Site{}) || e != api.ErrForm || p != (api.Patch{}) || !reflect.DeepEqual(z, api.Site{}) || g != api.ErrForm {
			t.Error(i, e, g)
		}
	}
}

// P27.1
func TestDown(t *testing.T) {
	x := sample()
	l, y, e := Down(x, api.Patch{At: 1, Del: 2, Ins: "ä\n"})
	want := []api.Op{del(id(2, 0), 2, 3, 3, 2, 0, 0), del(id(7, 1), 2, 4, 3, 3, 0, 0), ins(id(10, 2), id(1, 0), 'ä', 2, 5, 3, 4, 0, 0), ins(id(11, 2), id(10, 2), '\n', 2, 6, 3, 5, 0, 0)}
	if !reflect.DeepEqual(l, want) || e != api.OK || !reflect.DeepEqual(x, sample()) {
		t.Error(l, e)
	}
	doc := []api.Elem{elem(1, 0, 'a'), elem(10, 2, 'ä'), elem(11, 2, '\n'), dead(4, 2, 'x'), dead(2, 0, 'b'), dead(7, 1, 'c'), dead(3, 0, 'y')}
	if y.Site != 2 || y.Clock != 11 || !slices.Equal(y.Doc, doc) || !slices.Equal(y.Seen, []int{3, 6, 0, 0}) || len(y.Wait) != 0 || !reflect.DeepEqual(y.Log, want) {
		t.Error(y)
	}
	l[0].Seen[0], l[1].Site = 99, 99
	if !reflect.DeepEqual(y.Log, want) {
		t.Error("shared")
	}
	if l, y, e := Down(x, api.Patch{At: 3}); len(l) != 0 || !reflect.DeepEqual(own.Site(y), own.Site(x)) || e != api.OK {
		t.Error(l, y, e)
	}
	if l, _, _ := Down(api.Site{Site: 1, Seen: zero()}, api.Patch{Ins: "a"}); !reflect.DeepEqual(l, []api.Op{ins(id(1, 1), api.ID{}, 'a', 1, 1, 0, 0, 0, 0)}) {
		t.Error(l)
	}
	for i, p := range []api.Patch{{At: -1}, {At: 4}, {Del: -1}, {Del: 4}, {At: 3, Del: 1}, {Ins: "\xff"}, {Ins: "\x00"}, {Ins: strings.Repeat("x", 9000) + "\x00"}} {
		if l, y, e := Down(x, p); l != nil || !reflect.DeepEqual(y, api.Site{}) || e != api.ErrForm {
			t.Error(i, e)
		}
	}
}

// P27.1: where there is room, and where there is none
func TestFull(t *testing.T) {
	op := del(id(1, 0), 1, 1, 0, 0, 0, 0)
	mine := func(n, site int) []api.Elem {
		var l []api.Elem
		for i := range n {
			l = append(l, dead(i+1, site, 'x'))
		}
		return l
	}
	long := mine(api.MaxOps-3, 0)
	for i := range long {
		long[i].Dead, long[i].Rune = false, 'x'
	}
	for i, c := range []struct {
		f    func(x *api.Site)
		p    api.Patch
		full bool
	}{
		{func(x *api.Site) { x.Doc = mine(196, 2); x.Clock = 200 }, api.Patch{Ins: "abcd"}, false}, {func(x *api.Site) { x.Doc = mine(196, 2); x.Clock = 200 }, api.Patch{Ins: "abcde"}, true}, {func(x *api.Site) { x.Doc = mine(300, 1); x.Clock = 300 }, api.Patch{Ins: strings.Repeat("x", api.MaxMine)}, false}, {func(x *api.Site) {}, api.Patch{Ins: strings.Repeat("x", 9000)}, true},
		{func(x *api.Site) { x.Doc = long; x.Clock = 2000 }, api.Patch{Ins: "abc"}, false}, {func(x *api.Site) { x.Doc = long; x.Clock = 2000 }, api.Patch{Del: 5, Ins: "abcd"}, true},
		{func(x *api.Site) { x.Clock = api.MaxTime - 3 }, api.Patch{Del: 2, Ins: "a"}, false}, {func(x *api.Site) { x.Clock = api.MaxTime - 3 }, api.Patch{Del: 2, Ins: "ab"}, true}, {func(x *api.Site) { x.Seen[1] = api.MaxOps - 3 }, api.Patch{Del: 2, Ins: "a"}, false}, {func(x *api.Site) { x.Seen[1] = api.MaxOps - 3 }, api.Patch{Del: 2, Ins: "ab"}, true}, {func(x *api.Site) { x.Seen[0] = api.MaxOps }, api.Patch{Del: 2, Ins: "ab"}, false},
		{func(x *api.Site) { x.Log = slices.Repeat([]api.Op{op}, 4*api.MaxOps-3) }, api.Patch{Del: 2, Ins: "a"}, false}, {func(x *api.Site) { x.Log = slices.Repeat([]api.Op{op}, 4*api.MaxOps-3) }, api.Patch{Del: 2, Ins: "ab"}, true},
	} {
		x := sample()
		c.f(&x)
		l, y, e := Down(x, c.p)
		if c.full && (l != nil || !reflect.DeepEqual(y, api.Site{}) || e != api.ErrFull) || !c.full && (e != api.OK || Check(y) != api.OK) {
			t.Error(i, len(l), e)
		}
	}
	wide := mine(1500, 0) // a text that may not be
	for i := range wide {
		wide[i] = elem(i+1, 0, 0x10ffff)
	}
	x := api.Site{Site: 1, Clock: 2000, Doc: wide, Seen: zero()}
	if _, _, e := Down(x, api.Patch{}); Check(x) != api.OK || e != api.ErrForm {
		t.Error(e)
	}
}

// P27.2
func TestUp(t *testing.T) {
	for i, c := range []struct {
		o     api.Op
		p     api.Patch
		clock int
	}{
		{ins(id(9, 1), id(1, 0), 'ä', 1, 4, 3, 2, 0, 0), api.Patch{At: 1, Ins: "ä"}, 9}, {ins(id(6, 3), id(7, 1), 'z', 3, 1, 0, 0, 0, 0), api.Patch{}, 0}, {ins(id(5, 4), api.ID{}, 'z', 4, 9, 0, 0, 0, 0), api.Patch{Ins: "z"}, 7}, {ins(id(8, 3), id(7, 1), '\n', 3, 1, 0, 0, 0, 0), api.Patch{At: 3, Ins: "\n"}, 8}, {ins(id(7, 3), id(3, 0), '\n', 3, 1, 0, 0, 0, 0), api.Patch{At: 3, Ins: "\n"}, 7},
		{del(id(2, 0), 1, 4, 3, 2, 0, 0), api.Patch{At: 1, Del: 1}, 7}, {del(id(7, 1), 4, 1, 3, 2, 0, 0), api.Patch{At: 2, Del: 1}, 7}, {del(id(3, 0), 3, 1, 3, 2, 0, 0), api.Patch{}, 7}, {del(id(4, 2), 3, 1, 3, 2, 0, 0), api.Patch{}, 7},
	} {
		x := sample()
		p, y, e := Up(x, c.o)
		if c.clock == 0 { // such an op may not be
			if e != api.ErrForm {
				t.Error(i, e)
			}
			continue
		}
		doc, _ := order.Do(x.Doc, c.o)
		seen := slices.Clone(x.Seen)
		seen[c.o.Site-1] = c.o.N
		if p != c.p || y.Clock != c.clock || !slices.Equal(y.Doc, doc) || !slices.Equal(y.Seen, seen) || !reflect.DeepEqual(y.Log, []api.Op{c.o}) || e != api.OK || Check(y) != api.OK {
			t.Error(i, p, y, e)
		}
		was, _ := order.Text(x.Doc)
		is, _ := order.Text(y.Doc)
		if s, _ := patch.Apply(was, p); s != is {
			t.Error(i, s, is)
		}
		y.Log[0].Seen[0] = 99
		if c.o.Seen[0] == 99 || !reflect.DeepEqual(x, sample()) {
			t.Error(i, "shared")
		}
	}
	full := sample()
	full.Log = slices.Repeat([]api.Op{del(id(1, 0), 1, 1, 0, 0, 0, 0)}, 4*api.MaxOps)
	for i, c := range []struct {
		x api.Site
		o api.Op
		e api.Errno
	}{
		{sample(), ins(id(7, 1), id(6, 1), 'a', 1, 4, 0, 0, 0, 0), api.ErrBad}, {sample(), ins(id(8, 1), id(6, 1), 'a', 1, 4, 0, 0, 0, 0), api.ErrNone}, {sample(), del(id(6, 1), 1, 4, 0, 0, 0, 0), api.ErrNone}, {sample(), api.Op{}, api.ErrForm}, {full, del(id(6, 1), 1, 4, 0, 0, 0, 0), api.ErrNone}, {full, del(id(1, 0), 1, 4, 0, 0, 0, 0), api.ErrFull},
	} {
		if p, y, e := Up(c.x, c.o); p != (api.Patch{}) || !reflect.DeepEqual(y, api.Site{}) || e != c.e {
			t.Error(i, e)
		}
	}
}

// P27.3: the text behind Down is patch.Apply's; the ops, done one by one, lead there
func TestDownAndUp(t *testing.T) {
	first, _ := order.First("hello\nworld")
	sites := []api.Site{{Site: 1, Clock: 11, Doc: first, Seen: zero()}, {Site: 2, Clock: 11, Doc: first, Seen: zero()}}
	seed := 3
	for i := range 120 {
		seed = seed * 48271 % 0x7fffffff
		x, other := sites[i%2], sites[1-i%2]
		s, _ := order.Text(x.Doc)
		n := len([]rune(s))
		at := seed / 7 % (n + 1)
		p := api.Patch{At: at, Del: min(seed/101%3, n-at), Ins: "äb\n"[:seed/11%2*2]}
		l, y, e := Down(x, p)
		want, _ := patch.Apply(s, p)
		got, _ := order.Text(y.Doc)
		if got != want || e != api.OK || Check(y) != api.OK {
			t.Fatal(i, p, got, want, e)
		}
		doc := x.Doc
		for _, o := range l {
			if doc, e = order.Do(doc, o); e != api.OK || order.May(o) != api.OK {
				t.Fatal(i, e)
			}
			if _, other, e = Up(other, o); e != api.OK {
				t.Fatal(i, e)
			}
		}
		if !slices.Equal(doc, y.Doc) || !slices.Equal(other.Doc, y.Doc) || !slices.Equal(other.Seen, y.Seen) || !reflect.DeepEqual(other.Log, y.Log) || Check(other) != api.OK {
			t.Fatal(i, doc, y.Doc)
		}
		sites[i%2], sites[1-i%2] = y, other
	}
}
