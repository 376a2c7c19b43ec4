package coerce_test

import (
	"testing"

	"bailiff/api"
	"bailiff/coerce"
)

// P17.1: what Start refuses.

// holdStart holds a beginning against the error that is told of it.
func holdStart(t *testing.T, s start, e api.Errno) {
	t.Helper()
	task, got := coerce.Start(s.kind, s.hint, s.v, s.w)
	if got != e || (task == nil) != (e != api.OK) {
		t.Errorf("%v: %d, not %d", s, got, e)
	}
}

// goodHint tells which hints Start takes.
func goodHint(kind, hint int) bool { return kind != 1 || hint <= 2 }

func TestKindsAndHints(t *testing.T) {
	ill := illValues()[0]
	for kind := range 256 {
		for hint := range 256 {
			e := api.ErrArg
			if 1 <= kind && kind <= 7 && goodHint(kind, hint) {
				e = api.OK
			}
			holdStart(t, start{uint8(kind), uint8(hint), null, null}, e)
			if e == api.OK {
				e = api.ErrHeap
			}
			holdStart(t, start{uint8(kind), uint8(hint), ill, null}, e) // ErrArg comes ahead
		}
	}
}

func TestIllValues(t *testing.T) {
	for _, kind := range kinds() {
		two := kind >= coerce.Like
		for _, ill := range illValues() {
			for _, v := range append(plains(), things()...) {
				holdStart(t, start{kind, 0, ill, v}, api.ErrHeap)
				e := api.OK
				if two {
					e = api.ErrHeap
				}
				holdStart(t, start{kind, 0, v, ill}, e)
			}
			for _, other := range illValues() {
				holdStart(t, start{kind, 0, ill, other}, api.ErrHeap)
			}
		}
	}
}

func TestMayStart(t *testing.T) {
	all := append(plains(), things()...)
	for _, kind := range kinds() {
		for _, v := range all {
			for _, w := range all {
				holdStart(t, start{kind, 1, v, w}, api.OK)
			}
		}
	}
}
