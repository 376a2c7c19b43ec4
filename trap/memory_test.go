package trap_test

import (
	"fmt"
	"slices"
	"testing"

	"bailiff/api"
	"bailiff/trap"
)

// P16.3

// roomy is a list in memory of its own, with room behind it, in which something stands.
func roomy[T any](l []T, more ...T) []T { return append(slices.Clone(l), more...)[:len(l)] }

func room[T any](l []T) []T { return l[:cap(l)] }

// fill writes over a list, its room included.
func fill[T any](l []T, x T) {
	for i := range room(l) {
		room(l)[i] = x
	}
}

// spoil writes over all lists of what is wanted.
func spoil(w api.Want) {
	junk := text("junk")
	fill(w.Ask.Args, junk)
	fill(w.Args, junk)
	fill(w.Object.Props, prop("junk", fixed(junk)))
	fill(w.Out.Keys, keyOf("junk"))
}

// lists are where the lists of what is wanted begin, which have room for anything.
func lists(w api.Want) []any {
	var l []any
	if s := room(w.Ask.Args); len(s) > 0 {
		l = append(l, &s[0])
	}
	if s := room(w.Args); len(s) > 0 {
		l = append(l, &s[0])
	}
	if s := room(w.Object.Props); len(s) > 0 {
		l = append(l, &s[0])
	}
	if s := room(w.Out.Keys); len(s) > 0 {
		l = append(l, &s[0])
	}
	return l
}

// Whoever writes over what was handed in, and over what was answered, changes nothing of what comes behind.
func TestMemory(t *testing.T) {
	for name, l := range longTalks() {
		a := filled(methodOf(name))
		a.Args = roomy(a.Args, number(1), number(2))
		was := fmt.Sprint(room(a.Args))
		plain := begin(t, name, filled(methodOf(name)), maker(1), handler)
		task, e := trap.Start(a, maker(1), handler)
		if e != api.OK || fmt.Sprint(room(a.Args)) != was {
			t.Fatal(name, e, "changes what is handed in")
		}
		fill(a.Args, number(99))
		met := map[any]bool{}
		o := none()
		for i := 0; ; i++ {
			want, _ := plain.Next(o)
			o.Keys = roomy(o.Keys, keyOf("room"), keyOf("more"))
			was := fmt.Sprint(room(o.Keys))
			w, e := task.Next(o)
			if e != api.OK || !sameWant(w, want) {
				t.Fatalf("%s %d: %s (%d), not %s", name, i, showWant(w), e, showWant(want))
			}
			for _, p := range lists(w) {
				if met[p] {
					t.Error(name, i, "answers a list twice")
				}
				met[p] = true
			}
			spoil(w)
			if fmt.Sprint(room(o.Keys)) != was {
				t.Error(name, i, "changes or answers what is handed in")
			}
			fill(o.Keys, keyOf("spoilt"))
			if i == len(l) {
				break
			}
			o = l[i].give
		}
	}
}

// A beginning that is refused leaves what it is handed, too.
func TestRefusedMemory(t *testing.T) {
	for _, m := range methods() {
		for _, f := range faults(m) {
			for _, spoil := range f.spoil {
				b := well(m)
				spoil(&b)
				b.ask.Args = roomy(b.ask.Args, number(1), number(2))
				was := fmt.Sprint(b, room(b.ask.Args))
				trap.Start(b.ask, b.target, b.handler)
				if fmt.Sprint(b, room(b.ask.Args)) != was {
					t.Error(trapName(m), f.name)
				}
			}
		}
	}
}

// What is given and refused is not written over, and not kept.
func TestIllMemory(t *testing.T) {
	v := thing(20)
	turns := append(ahead(api.OwnKeys, filled(api.OwnKeys), f, v), readKeys(v, text("a"))...)
	turns = append(turns, turn{askExt, yes(true)}, turn{askKeys, told("b")})
	task := begin(t, "ill", filled(api.OwnKeys), maker(1), handler)
	o := none()
	for _, x := range turns {
		next(t, "ill", task, o, x.want)
		o = x.give
	}
	keys := append(keysOf("c", "d"), illKeys()[0])
	task.Next(api.Out{Kind: api.Done, Keys: keys})
	if !slices.Equal(keys, append(keysOf("c", "d"), illKeys()[0])) {
		t.Error("changes what is handed in")
	}
	next(t, "ill", task, o, askOf(api.GetOwnProperty, 1, keyOf("b")))
	next(t, "ill", task, none(), endOf(told("a")))
}

// The lists of a full ask, passed on and made an array of, are its own.
func TestFullArgs(t *testing.T) {
	full := make([]api.Value, api.MaxArgs)
	for i := range full {
		full[i] = number(float64(i))
	}
	kept := slices.Clone(full)
	for _, f := range []api.Value{undefined, callable(5)} {
		task := begin(t, "full", api.Ask{Method: api.Call, Object: 3, Value: null, Args: full}, callable(1), handler)
		fill(full, null)
		next(t, "full", task, none(), getOf(handler, "apply"))
		want := arrayOf(kept...)
		if f == undefined {
			want = api.Want{Kind: api.WantMethod, Ask: api.Ask{Method: api.Call, Object: 1, Value: null, Args: kept}}
		}
		next(t, "full", task, val(f), want)
		copy(full, kept)
	}
}
