package live

import (
	"reflect"
	"testing"

	"quill/api"
	"quill/model"
	"quill/step"
)

func conf() api.Conf {
	return api.Conf{Bytes: 60, Count: 99, Depth: 3, Steps: 80, Nodes: 4}
}

// A key that is not allowed leaves what an error by hand leaves.
func TestAllow(t *testing.T) {
	for _, keys := range []string{"x", "dw", "vl", "ia", "qqix", "cw", "mau"} {
		ed, _ := New(conf(), "ab cd")
		ed.Key('x', nil)
		for _, k := range keys {
			was := ed.State()
			want, _ := model.Step(was, int(k))
			refused := want.Text != was.Text
			if refused {
				want = step.Fail(was, int(k), api.ErrLimit)
			}
			asked := 0
			e := ed.Key(int(k), func(p api.Patch) api.Errno {
				asked++
				return api.ErrLimit
			})
			if refused != (asked == 1) || int(e) != want.Err || !reflect.DeepEqual(ed.State(), want) {
				t.Fatalf("%q %c: %v\n%+v\n%+v", keys, k, e, ed.State(), want)
			}
		}
	}
}

func TestNil(t *testing.T) {
	var ed *Editor
	if ed.Text() != "" || !reflect.DeepEqual(ed.State(), api.State{}) || !ed.Busy() || ed.Key('x', nil) != api.ErrForm || ed.Patch(api.Patch{}) != api.ErrBusy {
		t.Error("nil")
	}
}
