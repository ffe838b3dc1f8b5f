package own

import (
	"reflect"
	"testing"

	"quill/api"
)

func ops() []api.Op {
	return []api.Op{{N: 1, Seen: []int{1, 2, 3, 4}}, {N: 2, Seen: []int{5, 6, 7, 8}}, {N: 3}}
}

func TestOps(t *testing.T) {
	l := ops()
	x := Ops(l)
	for i := range x[:2] {
		_ = append(x[i].Seen, 99)
		for k := range x[i].Seen {
			if x[i].Seen[k] != 4*i+k+1 {
				t.Error(i, k, x[i].Seen)
			}
			x[i].Seen[k] = 99
		}
	}
	if !reflect.DeepEqual(l, ops()) || len(x) != 3 || len(x[2].Seen) != 0 || len(Ops(nil)) != 0 {
		t.Error(l, x)
	}
}

func TestSite(t *testing.T) {
	make1 := func() api.Site {
		return api.Site{Site: 1, Doc: []api.Elem{{Rune: 1}}, Seen: []int{1}, Wait: ops(), Log: ops()}
	}
	s := make1()
	x := Site(s)
	x.Doc[0].Rune, x.Seen[0], x.Wait[0].N, x.Log[0].Seen[0] = 9, 9, 9, 9
	if !reflect.DeepEqual(s, make1()) {
		t.Error(s)
	}
}

func TestState(t *testing.T) {
	make1 := func() api.State {
		return api.State{Pend: []int{1}, Regs: []api.Reg{{Name: 1}}, Marks: []api.Mark{{Name: 1}}, Dot: []int{1}, Typed: []int{1}, Keys: []int{1}, Undo: api.Tree{Nodes: []api.Node{{Seq: 1}}}}
	}
	s := make1()
	x := State(s)
	if !reflect.DeepEqual(s, x) {
		t.Error(x)
	}
	x.Pend[0], x.Regs[0].Name, x.Marks[0].Name, x.Dot[0], x.Typed[0], x.Keys[0], x.Undo.Nodes[0].Seq = 9, 9, 9, 9, 9, 9, 9
	if !reflect.DeepEqual(s, make1()) {
		t.Error(s)
	}
}
