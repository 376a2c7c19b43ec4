package table_test

import (
	"slices"
	"testing"

	"bailiff/api"
	"bailiff/table"
)

// P10.5

// misuse hands a call properties with room behind them, and tells what is wrong with what it leaves of these, and with the memory of what it answers.
func misuse[T any](l []api.Prop, call func(l []api.Prop) []T, junk T, same func(a, b []T) bool) string {
	room := append(slices.Clone(l), those(of("room"), symbol(77))...)
	handed := room[:len(l)]
	before := slices.Clone(room)
	first := call(handed)
	want := slices.Clone(first)
	if !equal(room, before) {
		return "changes what is handed in"
	}
	again := call(handed)
	spoil(first, junk)
	switch {
	case !equal(room, before):
		return "answers what is handed in"
	case !same(again, want):
		return "answers one memory twice"
	case !same(call(handed), want):
		return "keeps what it answered"
	}
	spoil(room, prop(of("junk"), usual(9)))
	if !same(again, want) {
		return "answers what hangs on what is handed in"
	}
	return ""
}

// spoil writes over all of a list, and over its room.
func spoil[T any](l []T, junk T) {
	l = l[:cap(l)]
	for i := range l {
		l[i] = junk
	}
}

func holdMemory[T any](t *testing.T, name string, l []api.Prop, call func(l []api.Prop) []T, junk T, same func(a, b []T) bool) {
	t.Helper()
	if s := misuse(l, call, junk, same); s != "" {
		t.Error(name, show(l), s)
	}
}

// held holds all calls of these properties; key stands there or not.
func held(t *testing.T, l []api.Prop, k api.Key, d api.Desc) {
	t.Helper()
	props := func(name string, call func(l []api.Prop) []api.Prop) {
		t.Helper()
		holdMemory(t, name, l, call, prop(of("other"), usual(8)), equal)
	}
	keys := func(name string, call func(l []api.Prop) []api.Key) {
		t.Helper()
		holdMemory(t, name, l, call, of("other"), slices.Equal[[]api.Key])
	}
	props("Put", func(l []api.Prop) []api.Prop {
		out, _ := table.Put(l, k, d)
		return out
	})
	props("Drop", func(l []api.Prop) []api.Prop {
		out, _ := table.Drop(l, k)
		return out
	})
	props("Find", func(l []api.Prop) []api.Prop {
		out, _, _ := table.Find(l, k)
		return []api.Prop{prop(k, out)}
	})
	keys("Keys", func(l []api.Prop) []api.Key {
		out, _ := table.Keys(l)
		return out
	})
	keys("Names", func(l []api.Prop) []api.Key {
		out, _ := table.Names(l)
		return out
	})
	keys("Check, Sealed and Frozen", func(l []api.Prop) []api.Key {
		table.Check(l)
		table.Sealed(l)
		table.Frozen(l)
		return nil
	})
}

func TestMemory(t *testing.T) {
	keys := []api.Key{of("b"), of("1"), of("0"), symbol(0)}
	for _, l := range lists(keys, 4) {
		for _, k := range append(keys, of("z")) {
			held(t, l, k, data(text("put"), false, true, false))
		}
	}
	for _, k := range []api.Key{numbered(0), numbered(500), numbered(1023), of("z")} {
		held(t, full(api.MaxProps), k, usual(7))
		held(t, full(api.MaxProps-1), k, usual(7))
	}
}

// What is refused is left as it is, too.
func TestMemoryOfWhatIsRefused(t *testing.T) {
	for _, c := range faulty() {
		held(t, c.l, of("a"), usual(1))
	}
	held(t, those(of("a"), of("b")), both("a", 1), usual(1))
	held(t, those(of("a"), of("b")), of("a"), api.Desc{})
}
