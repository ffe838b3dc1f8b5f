package step

import (
	"reflect"
	"slices"
	"strings"
	"testing"

	"quill/api"
	"quill/undo"
)

func editor(s string) api.State {
	t, _ := undo.New(s)
	c := api.Conf{Bytes: api.MaxBytes, Count: api.MaxCount, Depth: api.MaxDepth, Steps: api.MaxSteps, Nodes: 3}
	return api.State{Conf: c, Text: s, Mode: api.ModeNormal, Undo: t}
}

// What a key did to the undo tree leads there again.
func TestDeeds(t *testing.T) {
	s := editor("abcdef")
	s.Regs = []api.Reg{{Name: 'a', Text: "xxuxg-\x12u"}}
	for _, k := range "x@a2ug+@ax3xix\x1b@au" {
		x, l := Key(s, int(k))
		tree := s.Undo
		for _, d := range l {
			switch d.Kind {
			case DeedCommit:
				tree, _ = undo.Commit(tree, d.Text, d.At, s.Conf.Nodes)
			case DeedBack:
				tree, _, _, _ = undo.Back(tree)
			case DeedAgain:
				tree, _, _, _ = undo.Again(tree)
			case DeedEarlier:
				tree, _, _, _ = undo.Earlier(tree)
			case DeedLater:
				tree, _, _, _ = undo.Later(tree)
			}
		}
		if tree.Cur != x.Undo.Cur || !slices.Equal(tree.Nodes, x.Undo.Nodes) || x.Err != 0 && l != nil {
			t.Fatalf("%c: %v %v, not %v", k, l, tree, x.Undo)
		}
		s = x
	}
}

func TestFail(t *testing.T) {
	s := editor("ab\n")
	s.Mode, s.From, s.Cur, s.Pend, s.Rec = api.ModeVisual, 1, 2, []int{'2'}, 'a'
	x := Fail(s, 'ä', api.ErrFull)
	s.Mode, s.From, s.Cur, s.Pend, s.Keys, s.Err = api.ModeNormal, 0, 1, nil, []int{'ä'}, int(api.ErrFull)
	if !reflect.DeepEqual(x, s) {
		t.Error(x)
	}
	s.Mode, s.Cur, s.Rec, s.Keys = api.ModeInsert, 2, 0, nil
	if x := Fail(s, 'b', api.ErrFull); x.Mode != api.ModeInsert || x.Cur != 2 || x.Keys != nil {
		t.Error(x)
	}
}

func TestFits(t *testing.T) {
	c := editor("").Conf
	for s, want := range map[string]bool{"": true, "\xff": false, strings.Repeat("x", api.MaxGap): true, strings.Repeat("x", api.MaxGap+1): false, strings.Repeat("\n", api.MaxRows-1): true, strings.Repeat("\n", api.MaxRows): false} {
		if Fits(c, s) != want {
			t.Error(len(s), !want)
		}
	}
	c.Bytes = 2
	if !Fits(c, "ä") || Fits(c, "abc") {
		t.Error("bytes")
	}
}
