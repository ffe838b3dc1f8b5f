package causal

import (
	"reflect"
	"slices"
	"testing"
	"time"

	"quill/api"
)

func op(site, n int, seen ...int) api.Op {
	return api.Op{Kind: api.OpDelete, ID: api.ID{Time: 1}, Site: site, N: n, Seen: append(seen, make([]int, api.MaxSites-len(seen))...)}
}

func wrongVectors() [][]int {
	return [][]int{nil, {}, {0, 0, 0}, {0, 0, 0, 0, 0}, {-1, 0, 0, 0}, {0, 0, 0, api.MaxOps + 1}}
}

// P26.1
func TestOldAndReady(t *testing.T) {
	v := []int{2, 0, api.MaxOps, 1}
	for i, c := range []struct {
		o          api.Op
		old, ready bool
	}{
		{op(1, 1), true, false}, {op(1, 2), true, false}, {op(1, 3), false, true}, {op(1, 4), false, false}, {op(2, 1, 2, 0, 2000, 1), false, true}, {op(2, 1, 3), false, false}, {op(2, 1, 0, 1), false, false}, {op(3, api.MaxOps), true, false}, {op(4, 2, 0, 0, 0, 2), false, false}, {op(4, 2, 0, 0, 0, 1), false, true}, {op(4, 1, 2000, 2000), true, false},
	} {
		o, e := Old(v, c.o)
		r, f := Ready(v, c.o)
		if o != c.old || r != c.ready || e != api.OK || f != api.OK {
			t.Error(i, o, r, e, f)
		}
	}
	bad := op(1, 0)
	for _, v := range wrongVectors() {
		o, e := Old(v, op(1, 1))
		r, f := Ready(v, op(1, 1))
		told, x, wait, g := Add(v, nil, op(1, 1))
		if o || r || e != api.ErrForm || f != api.ErrForm || told != nil || x != nil || wait != nil || g != api.ErrForm {
			t.Error(v, e, f, g)
		}
	}
	o, e := Old(v, bad)
	r, f := Ready(v, bad)
	_, _, _, g := Add(v, nil, bad)
	_, _, _, h := Add(v, []api.Op{bad}, op(1, 3))
	if o || r || e != api.ErrForm || f != api.ErrForm || g != api.ErrForm || h != api.ErrForm {
		t.Error(e, f, g, h)
	}
}

func same(a, b []api.Op) bool { return len(a) == 0 && len(b) == 0 || reflect.DeepEqual(a, b) }

// P26.2
func TestAdd(t *testing.T) {
	zero := []int{0, 0, 0, 0}
	twice := op(2, 1)
	twice.ID.Time = 7
	for i, c := range []struct {
		v    []int
		l    []api.Op
		o    api.Op
		told []api.Op
		x    []int
		wait []api.Op
	}{
		{zero, nil, op(1, 1), []api.Op{op(1, 1)}, []int{1, 0, 0, 0}, nil},
		{zero, nil, op(1, 2), nil, zero, []api.Op{op(1, 2)}},
		{zero, []api.Op{op(1, 2)}, op(1, 1), []api.Op{op(1, 1), op(1, 2)}, []int{2, 0, 0, 0}, nil},
		{[]int{1, 0, 0, 0}, nil, op(1, 1), nil, []int{1, 0, 0, 0}, nil},
		{zero, []api.Op{op(2, 2)}, op(2, 2), nil, zero, []api.Op{op(2, 2)}},
		{zero, []api.Op{op(2, 2, 9)}, op(2, 2), nil, zero, []api.Op{op(2, 2, 9)}},
		{[]int{1, 0, 0, 0}, []api.Op{op(3, 2)}, op(1, 1), nil, []int{1, 0, 0, 0}, []api.Op{op(3, 2)}},
		{zero, []api.Op{op(3, 1, 1), op(2, 2), op(2, 1, 1), op(4, 3)}, op(1, 1), []api.Op{op(1, 1), op(3, 1, 1), op(2, 1, 1), op(2, 2)}, []int{1, 2, 1, 0}, []api.Op{op(4, 3)}},
		{zero, []api.Op{op(2, 1), twice, op(1, 1)}, op(3, 2), []api.Op{op(2, 1), op(1, 1)}, []int{1, 1, 0, 0}, []api.Op{op(3, 2)}},
		{zero, []api.Op{op(2, 1, 1), twice}, op(1, 1), []api.Op{twice, op(1, 1)}, []int{1, 1, 0, 0}, nil},
		{[]int{5, 0, 0, 0}, []api.Op{op(1, 3), op(2, 2), op(1, 5)}, op(1, 4), nil, []int{5, 0, 0, 0}, []api.Op{op(2, 2)}},
		{[]int{5, 0, 0, 0}, []api.Op{op(2, 1)}, op(1, 5), []api.Op{op(2, 1)}, []int{5, 1, 0, 0}, nil},
	} {
		v, l := slices.Clone(c.v), slices.Clone(c.l)
		told, x, wait, e := Add(c.v, c.l, c.o)
		if !same(told, c.told) || !slices.Equal(x, c.x) || !same(wait, c.wait) || e != api.OK {
			t.Errorf("%d: %v %v %v %v", i, told, x, wait, e)
		}
		for _, o := range append(told, wait...) {
			o.Seen[0] = 99
		}
		x[0] = 99
		if !slices.Equal(v, c.v) || !same(l, c.l) || c.o.Seen[0] == 99 {
			t.Errorf("%d: what was handed in is changed", i)
		}
	}
}

// P26.2: limits
func TestFull(t *testing.T) {
	var l []api.Op
	for n := 2; n <= api.MaxOps; n++ {
		for site := 1; site <= 4; site++ {
			l = append(l, op(site, n))
		}
	}
	l = append(l, op(1, api.MaxOps), op(1, api.MaxOps), op(1, api.MaxOps))
	slices.Reverse(l)
	l = slices.Clip(l)
	begin := time.Now()
	told, x, wait, e := Add([]int{0, 1, 1, 1}, l, op(1, 1))
	if len(told) != 4*api.MaxOps-3 || !slices.Equal(x, []int{2000, 2000, 2000, 2000}) || len(wait) != 0 || e != api.OK || time.Since(begin) > 20*time.Second {
		t.Error(len(told), x, len(wait), e)
	}
	for i, c := range []struct {
		l []api.Op
		o api.Op
		e api.Errno
	}{{append(l, op(1, 5)), op(1, 1), api.ErrFull}, {append(l, op(1, 5), op(1, 5)), op(1, 1), api.ErrForm}, {append(l, op(0, 5)), op(1, 1), api.ErrForm}, {append(l, op(1, 5)), op(1, 0), api.ErrForm}} {
		if told, x, wait, e := Add([]int{0, 0, 0, 0}, c.l, c.o); told != nil || x != nil || wait != nil || e != c.e {
			t.Error(i, e)
		}
	}
}

// P26.3
func TestWaits(t *testing.T) {
	seed := 9
	random := func(n int) int {
		seed = seed * 48271 % 0x7fffffff
		return seed / 7 % n
	}
	for range 200 {
		v, l := []int{0, 0, 0, 0}, []api.Op(nil)
		for range 40 {
			o := op(1+random(4), 1+random(5), random(3), random(3), random(3), random(3))
			_, x, wait, e := Add(v, l, o)
			if e != api.OK {
				t.Fatal(e)
			}
			v, l = x, wait
			for _, o := range l {
				a, _ := Old(v, o)
				b, _ := Ready(v, o)
				if a || b {
					t.Fatal(v, o)
				}
			}
		}
	}
}
