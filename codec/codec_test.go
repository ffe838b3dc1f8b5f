package codec

import (
	"reflect"
	"strings"
	"testing"

	"quill/api"
	"quill/order"
)

func id(time, site int) api.ID { return api.ID{Time: time, Site: site} }

// P25.1, P25.2
func TestBoth(t *testing.T) {
	for _, c := range []struct {
		o api.Op
		s string
	}{
		{api.Op{Kind: api.OpInsert, ID: id(0x1234, 3), After: id(0x0203, 4), Rune: 0x10fffe, Site: 2, N: 0x0708, Seen: []int{0, 1, 0x0102, 2000}}, "\x01\x12\x34\x03\x02\x03\x04\x10\xff\xfe\x02\x07\x08\x00\x00\x00\x01\x01\x02\x07\xd0"},
		{api.Op{Kind: api.OpDelete, ID: id(1, 0), Site: 4, N: 1, Seen: []int{0, 0, 0, 0}}, "\x02\x00\x01\x00\x00\x00\x00\x00\x00\x00\x04\x00\x01\x00\x00\x00\x00\x00\x00\x00\x00"},
	} {
		s, e := Bytes(c.o)
		o, f := Take(c.s)
		if s != c.s || e != api.OK || !reflect.DeepEqual(o, c.o) || f != api.OK {
			t.Errorf("%q %v, %v %v", s, e, o, f)
		}
	}
}

// P25.1
func TestWrong(t *testing.T) {
	for i, f := range []func(o *api.Op){func(o *api.Op) { o.Kind = 0 }, func(o *api.Op) { o.ID.Time = 0 }, func(o *api.Op) { o.After = o.ID }, func(o *api.Op) { o.Rune = 0 }, func(o *api.Op) { o.Site = 0 }, func(o *api.Op) { o.N = api.MaxOps + 1 }, func(o *api.Op) { o.Seen = nil }, func(o *api.Op) { o.Seen = o.Seen[1:] }, func(o *api.Op) { o.Seen[0] = -1 }} {
		o := api.Op{Kind: api.OpInsert, ID: id(2, 1), Rune: 'a', Site: 1, N: 1, Seen: make([]int, api.MaxSites)}
		f(&o)
		if s, e := Bytes(o); s != "" || e != api.ErrForm {
			t.Errorf("%d: %q %v", i, s, e)
		}
	}
	good, _ := Bytes(api.Op{Kind: api.OpInsert, ID: id(2, 1), Rune: 'a', Site: 1, N: 1, Seen: make([]int, api.MaxSites)})
	for _, s := range []string{"", "a", good[1:], good + "\x00", good + good, strings.Repeat("\x00", 21), strings.Repeat("\xff", 21)} {
		if o, e := Take(s); !reflect.DeepEqual(o, api.Op{}) || e != api.ErrBad {
			t.Errorf("%q: %v %v", s, o, e)
		}
	}
	taken := 0
	for i := range len(good) { // whatever is taken is just that op's bytes
		for b := range 256 {
			s := good[:i] + string([]byte{byte(b)}) + good[i+1:]
			o, e := Take(s)
			if e == api.OK {
				taken++
				if x, f := Bytes(o); x != s || f != api.OK || order.May(o) != api.OK {
					t.Errorf("%q: %q %v", s, x, f)
				}
			} else if e != api.ErrBad || !reflect.DeepEqual(o, api.Op{}) {
				t.Errorf("%q: %v %v", s, o, e)
			}
		}
	}
	if taken < 1000 {
		t.Error(taken)
	}
}
