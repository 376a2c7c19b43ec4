package coerce_test

import (
	"fmt"
	"slices"
	"testing"

	"bailiff/api"
)

// P17.3

// spoil writes over all lists of what is wanted, their room included, and tells where they begin.
func spoil(w api.Want) []any {
	var begins []any
	for _, l := range [][]api.Value{w.Args, w.Ask.Args} {
		l = l[:cap(l)]
		for i := range l {
			l[i] = text("junk")
		}
		if len(l) > 0 {
			begins = append(begins, &l[0])
		}
	}
	return begins
}

// Whoever writes over what was given, and over what was answered, changes nothing of what comes behind; and no list is answered twice.
func TestMemory(t *testing.T) {
	for _, x := range longTalks() {
		task := begin(t, x.s)
		met := map[any]bool{}
		o := val(undefined)
		for i := range len(x.l) + 1 {
			keys := append(make([]api.Key, 0, 8), keyOf("a"), symKey(0))
			room := keys[:cap(keys)]
			room[3] = keyOf("room")
			was := slices.Clone(room)
			o.Keys = keys
			w, e := task.Next(o)
			want := endOf(x.end)
			if i < len(x.l) {
				want, o = x.l[i].want, x.l[i].give
			}
			if e != api.OK || !sameWant(w, want) {
				t.Fatalf("%v %d: %s (%d), not %s", x.s, i, cut(w), e, cut(want))
			}
			if cap(w.Out.Keys) > 0 {
				t.Error(x.s, i, "answers keys")
			}
			for _, p := range spoil(w) {
				if met[p] {
					t.Error(x.s, i, "answers a list twice")
				}
				met[p] = true
			}
			if !slices.Equal(room, was) {
				t.Error(x.s, i, "changes what is handed in")
			}
			clear(room)
		}
	}
}

// What is refused is not written over either.
func TestIllMemory(t *testing.T) {
	for _, x := range longTalks() {
		for n := range x.l {
			task := lead(t, x, n)
			for _, o := range illOuts() {
				was := fmt.Sprint(o)
				task.Next(o)
				if fmt.Sprint(o) != was {
					t.Error(x.s, n, "changes what is handed in")
				}
			}
		}
	}
}

// Two Tasks that were begun alike share nothing: what is written over one's answers changes nothing of the other's.
func TestTwins(t *testing.T) {
	for _, x := range longTalks() {
		a, b := begin(t, x.s), begin(t, x.s)
		o := val(undefined)
		for i := range len(x.l) {
			w, _ := a.Next(o)
			spoil(w)
			next(t, fmt.Sprint(x.s, " ", i), b, o, x.l[i].want)
			o = x.l[i].give
		}
		next(t, fmt.Sprint(x.s, " end"), b, o, endOf(x.end))
		next(t, fmt.Sprint(x.s, " end"), a, o, endOf(x.end))
	}
}
