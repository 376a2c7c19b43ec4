package coerce_test

import (
	"testing"

	"bailiff/api"
	"bailiff/coerce"
)

// P17.4

// A Task whose values are no objects wants nothing.
func TestWantsNothing(t *testing.T) {
	for _, v := range plains() {
		for _, w := range plains() {
			for _, kind := range kinds() {
				want, e := begin(t, start{kind, 1, v, w}).Next(api.Out{})
				if e != api.OK || want.Kind != api.WantEnd || want.Out.Kind != api.Done && want.Out.Kind != api.Fail {
					t.Error(kindName(kind), cut(v), cut(w), cut(want), e)
				}
			}
		}
	}
}

// Each one ends by 10 wants at most, and there are such that have as many.
func TestHowMany(t *testing.T) {
	most := map[uint8]int{}
	few := []start{{coerce.Prim, 0, thing(2), null}, {coerce.Number, 0, thing(2), null}, {coerce.Text, 0, thing(2), null}, {coerce.Key, 0, thing(2), null}, {coerce.Like, 0, thing(2), number(7)}, pair(coerce.Like), pair(coerce.Less), pair(coerce.Add)}
	for _, s := range few {
		ways(s, func(l []turn, end api.Out) {
			task := begin(t, s)
			n := 0
			for w, e := task.Next(api.Out{}); w.Kind != api.WantEnd; n++ {
				if e != api.OK || n >= 10 {
					t.Fatal(s, n, e)
				}
				w, e = task.Next(l[n].give)
			}
			most[s.kind] = max(most[s.kind], n)
		})
	}
	for kind, n := range map[uint8]int{coerce.Prim: 5, coerce.Number: 5, coerce.Text: 5, coerce.Key: 5, coerce.Like: 5, coerce.Less: 10, coerce.Add: 10} {
		if most[kind] != n {
			t.Error(kindName(kind), "wants", most[kind], "things, not", n)
		}
	}
}

// Whatever is given for ever: an endless row of functions, of objects, of anything ends.
func TestEndless(t *testing.T) {
	for _, s := range starts() {
		for _, v := range append(things(), plains()...) {
			task := begin(t, s)
			w, e := task.Next(api.Out{})
			n := 0
			for ; e == api.OK && w.Kind != api.WantEnd; n++ {
				w, e = task.Next(val(v))
			}
			if e != api.OK || n > 10 {
				t.Error(s, cut(v), n, e)
			}
		}
	}
}

// Text of a string, Number of a number, Prim of no object tell it.
func TestTellsIt(t *testing.T) {
	for _, v := range plains() {
		for hint := range uint8(3) {
			holdTalk(t, start{coerce.Prim, hint, v, null}, nil, val(v))
		}
		switch v.Kind {
		case api.String:
			holdTalk(t, start{coerce.Text, 0, v, null}, nil, val(v))
		case api.Number:
			holdTalk(t, start{coerce.Number, 0, v, null}, nil, val(v))
		}
	}
}

// Add of two strings is both; Less of a value that is no number's is undefined.
func TestOfTwo(t *testing.T) {
	for _, v := range plains() {
		for _, w := range plains() {
			if v.Kind == api.String && w.Kind == api.String && len(v.Str)+len(w.Str) <= api.MaxString {
				holdTalk(t, start{coerce.Add, 0, v, w}, nil, val(text(v.Str+w.Str)))
			}
		}
		if end := plainly(start{coerce.Number, 0, v, null}); end.Kind == api.Done {
			holdTalk(t, start{coerce.Less, 0, number(nan), v}, nil, val(undefined))
			holdTalk(t, start{coerce.Less, 0, v, undefined}, nil, val(undefined))
		}
	}
}
