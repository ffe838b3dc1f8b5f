package net

import (
	"reflect"
	"slices"
	"strings"
	"testing"

	"quill/api"
	"quill/lower"
	"quill/order"
	"quill/site"
)

var conf = api.Conf{Bytes: api.MaxBytes, Count: api.MaxCount, Depth: api.MaxDepth, Steps: api.MaxSteps, Nodes: api.MaxNodes}

func typed(site int, keys string) api.Act {
	return api.Act{Kind: api.ActType, Site: site, Keys: keys}
}

func send(site, to int) api.Act { return api.Act{Kind: api.ActSend, Site: site, To: to} }

func at(kind, to, n int) api.Act { return api.Act{Kind: kind, To: to, N: n} }

const (
	deliver = api.ActDeliver
	drop    = api.ActDrop
	double  = api.ActDouble
)

// P29.1
func TestErrors(t *testing.T) {
	less := conf
	less.Bytes--
	long := []api.Act{typed(9, strings.Repeat("x", 1000)), {Keys: strings.Repeat("x", 1001)}}
	for i, c := range []struct {
		c api.Conf
		n int
		s string
		l []api.Act
		e api.Errno
	}{
		{conf, 0, "", nil, api.ErrForm}, {conf, -1, "", nil, api.ErrForm}, {conf, api.MaxSites + 1, "", nil, api.ErrForm}, {less, 1, "", nil, api.ErrForm}, {conf, 1, "\xff", long, api.ErrForm}, {conf, 2, strings.Repeat("x", api.MaxMine+1), long, api.ErrFull}, {conf, 1, "", long, api.ErrLimit}, {conf, 1, "", make([]api.Act, 401), api.ErrLimit},
	} {
		if r, e := Run(c.c, c.n, c.s, c.l); !reflect.DeepEqual(r, api.Report{}) || e != c.e {
			t.Error(i, e)
		}
	}
	if r, e := Run(conf, 4, "ab", make([]api.Act, 400)); len(r.Texts) != 4 || len(r.Sites) != 4 || e != api.OK {
		t.Error(r, e)
	}
	if _, e := Run(conf, 1, "", []api.Act{typed(1, strings.Repeat("x", 2000))}); e != api.OK {
		t.Error(e)
	}
}

// P29.1
func TestActs(t *testing.T) {
	for i, c := range []struct {
		n       int
		l       []api.Act
		texts   []string
		waiting int
	}{
		{2, nil, []string{"ab", "ab"}, 0},
		{2, []api.Act{typed(1, "ix\x1b"), at(deliver, 2, 0)}, []string{"xab", "xab"}, 0},
		{3, []api.Act{typed(1, "ixy\x1b")}, []string{"xyab", "ab", "ab"}, 4},
		{2, []api.Act{typed(1, "ixy\x1b"), at(deliver, 2, 1), at(deliver, 2, 4)}, []string{"xyab", "xyab"}, 0},
		{2, []api.Act{typed(1, "ixy\x1b"), at(deliver, 2, 3)}, []string{"xyab", "ab"}, 1},
		{2, []api.Act{typed(1, "ixy\x1b"), at(drop, 2, 0), at(deliver, 2, 0), send(1, 2), at(deliver, 2, 0)}, []string{"xyab", "xyab"}, 1},
		{2, []api.Act{typed(1, "ix\x1b"), at(double, 2, 0), at(double, 2, 1), at(deliver, 2, 2), at(deliver, 2, 0)}, []string{"xab", "xab"}, 1},
		{2, []api.Act{typed(1, "ix\x1b"), typed(2, "i"), at(deliver, 2, 0)}, []string{"xab", "ab"}, 1},
		{2, []api.Act{typed(1, "ix\x1b"), typed(2, "2"), at(deliver, 2, 0), typed(2, "\x1b"), at(deliver, 2, 0)}, []string{"xab", "xab"}, 0},
		{2, []api.Act{typed(1, "i\xff\xc3x\x1b"), typed(2, "ä"), at(deliver, 2, 0)}, []string{"xab", "xab"}, 0},
		{2, []api.Act{typed(0, "x"), typed(3, "x"), typed(-1, "x"), typed(2, "x")}, []string{"ab", "b"}, 1},
		{2, []api.Act{typed(1, "x"), send(1, 1), send(1, 3), send(0, 2), send(3, 2), send(2, 0), send(2, 1)}, []string{"b", "ab"}, 1},
		{2, []api.Act{typed(1, "xx"), at(deliver, 2, -1), at(drop, 2, -1), at(double, 2, -2), at(deliver, 0, 0), at(deliver, 3, 0), at(drop, 1, 0), at(double, 1, 0), at(deliver, 1, 0)}, []string{"", "ab"}, 2},
		{2, []api.Act{typed(1, "xx"), {Kind: 9, Site: 1, To: 2}, {Kind: -1, Site: 1, To: 2}, {Site: 1, To: 2, Keys: "x"}}, []string{"", "ab"}, 2},
		{2, []api.Act{typed(1, "x"), typed(2, "x"), at(deliver, 1, 0), at(deliver, 2, 0)}, []string{"b", "b"}, 0},
		{2, []api.Act{typed(1, "ix\x1b"), typed(2, "iy\x1b"), at(deliver, 1, 0), at(deliver, 2, 0)}, []string{"yxab", "yxab"}, 0},
	} {
		r, e := Run(conf, c.n, "ab", c.l)
		if !slices.Equal(r.Texts, c.texts) || r.Waiting != c.waiting || len(r.Sites) != c.n || e != api.OK {
			t.Errorf("%d: %q %d %v", i, r.Texts, r.Waiting, e)
		}
		for k, x := range r.Sites {
			if s, _ := order.Text(x.Doc); s != r.Texts[k] || x.Site != k+1 || lower.Check(x) != api.OK {
				t.Error(i, x)
			}
		}
	}
}

// P29.1: no more than so many lie there
func TestMany(t *testing.T) {
	l := []api.Act{typed(1, "qqiabcdefghij\x1bu\x12u\x12u\x12q")}
	for range 100 {
		l = append(l, send(1, 2))
	}
	r, e := Run(conf, 2, "", l)
	if n := len(r.Sites[0].Log); n != 70 || r.Waiting != mostLie || e != api.OK {
		t.Error(n, r.Waiting, e)
	}
	r, _ = Run(conf, 2, "", append(l, at(double, 2, 0)))
	if r.Waiting != mostLie {
		t.Error(r.Waiting)
	}
	r, _ = Run(conf, 2, "", append(l, at(drop, 2, 0), at(double, 2, 0), at(double, 2, 0), typed(1, "x")))
	if r.Waiting != mostLie+1 {
		t.Error(r.Waiting)
	}
}

// P29.2, T3, T4: whatever the script, all sites come to the same in the end
func TestEnds(t *testing.T) {
	words := []string{"ix\x1b", "dw", "A\ny\x1b", "u", "2p", "ggJ", "x", "i", "\x1b", "V", "qaxq", "@a", ".", "\x12", "cwä\x1b", ">>", "3\x1b", "yy", "P", "d"}
	for seed := 1; seed < 60; seed++ {
		x := seed
		random := func(n int) int {
			x = x * 48271 % 0x7fffffff
			return x / 7 % n
		}
		n := 1 + random(4)
		var l []api.Act
		for range 200 {
			a := api.Act{Kind: 1 + random(5), Site: 1 + random(n), To: 1 + random(n), N: random(50)}
			if random(3) == 0 {
				a.Kind = api.ActType
			}
			if a.Kind == api.ActType {
				a.Keys = words[random(len(words))]
			}
			l = append(l, a)
		}
		for i := range n {
			l = append(l, typed(i+1, "\x1b"))
		}
		r, e := Run(conf, n, "ab (cd)\nef", l)
		if e != api.OK {
			t.Fatal(e)
		}
		again, _ := Run(conf, n, "ab (cd)\nef", l)
		if !reflect.DeepEqual(r, again) {
			t.Fatal("not the same twice")
		}
		w := web{lists: make([][]string, n)} // as Run, and on until nothing lies there
		w.sites = newSites(t, n)
		for _, a := range l {
			w.act(a)
		}
		if !reflect.DeepEqual(w.report(), r) {
			t.Fatal("not the same")
		}
		for from := range n {
			for to := range n {
				w.act(send(from+1, to+1))
			}
		}
		for to := range n {
			for len(w.lists[to]) > 0 {
				w.act(at(deliver, to+1, 0))
			}
		}
		r = w.report()
		for i, y := range r.Sites {
			if r.Texts[i] != r.Texts[0] || !slices.Equal(y.Doc, r.Sites[0].Doc) || !slices.Equal(y.Seen, r.Sites[0].Seen) || len(y.Wait) > 0 || r.Waiting > 0 {
				t.Fatalf("seed %d: %q", seed, r.Texts)
			}
		}
	}
}

func newSites(t *testing.T, n int) (l []*site.Site) {
	for i := range n {
		x, e := site.New(conf, i+1, "ab (cd)\nef")
		if e != api.OK {
			t.Fatal(e)
		}
		l = append(l, x)
	}
	return l
}
