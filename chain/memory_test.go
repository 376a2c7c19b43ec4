package chain_test

import (
	"fmt"
	"slices"
	"testing"

	"bailiff/api"
	"bailiff/chain"
)

// P14.4

// A told is what a call tells: a heap, numbers, and the rest as a text.
type told struct {
	heap    api.Heap
	numbers []int
	rest    string
}

func (o told) show() string { return show(o.heap) + fmt.Sprint(o.numbers, o.rest) }

// spoil writes over all of its memory, room behind included.
func (o told) spoil() {
	spoil(o.heap)
	l := o.numbers[:cap(o.numbers)]
	for i := range l {
		l[i] = -99
	}
}

func spoil(h api.Heap) {
	l := h.Objects[:cap(h.Objects)]
	for i := range l {
		spoilProps(l[i].Props)
		l[i] = api.Object{Kind: 99, Text: "junk"}
	}
}

func spoilProps(l []api.Prop) {
	l = l[:cap(l)]
	for i := range l {
		l[i] = prop("junk", null)
	}
}

// roomy is a heap in memory of its own, in which each list has room behind it, with something in it.
func roomy(h api.Heap) api.Heap {
	l := append(slices.Clone(h.Objects), plain(null), plain(null))
	for i := range l {
		room := append(slices.Clone(l[i].Props), prop("room", number(1)), prop("more", number(2)))
		l[i].Props = room[:len(l[i].Props)]
	}
	return api.Heap{Objects: l[:len(h.Objects)]}
}

// whole is all that a heap's memory has, its room included.
func whole(h api.Heap) string {
	l := slices.Clone(h.Objects[:cap(h.Objects)])
	for i := range l {
		l[i].Props = l[i].Props[:cap(l[i].Props)]
	}
	return show(api.Heap{Objects: l})
}

// misuse tells what is wrong with what a call leaves of the heap that it is handed, and with the memory of what it answers.
func misuse(h api.Heap, call func(h api.Heap) told) string {
	h = roomy(h)
	was := whole(h)
	first := call(h)
	want := first.show()
	if whole(h) != was {
		return "changes what is handed in"
	}
	again := call(h)
	first.spoil()
	switch {
	case whole(h) != was:
		return "answers what is handed in"
	case again.show() != want:
		return "answers one memory twice"
	case call(h).show() != want:
		return "keeps what it answered"
	}
	spoil(h)
	if again.show() != want {
		return "answers what hangs on what is handed in"
	}
	if shares(again.heap) {
		return "answers lists that share memory"
	}
	return ""
}

// shares tells whether two objects' lists share memory. It spoils them.
func shares(h api.Heap) bool {
	l := h.Objects
	for i := range l {
		spoilProps(l[i].Props)
		l[i].Props = nil
		for k := range l {
			if slices.ContainsFunc(l[k].Props, func(p api.Prop) bool { return p.Key.Str == "junk" }) {
				return true
			}
		}
	}
	return false
}

// calls are all six, of an object, and of another one.
func calls(n, m int) map[string]func(h api.Heap) told {
	return map[string]func(h api.Heap) told{
		"Make": func(h api.Heap) told {
			after, made, e := chain.Make(h, n, m)
			return told{heap: after, rest: fmt.Sprint(made, int(e))}
		},
		"Revoke": func(h api.Heap) told {
			after, e := chain.Revoke(h, n)
			return told{heap: after, rest: fmt.Sprint(int(e))}
		},
		"Down": func(h api.Heap) told {
			l, cut, e := chain.Down(h, n)
			return told{numbers: l, rest: fmt.Sprint(cut, int(e))}
		},
		"IsArray": func(h api.Heap) told {
			is, e := chain.IsArray(h, n)
			return told{rest: fmt.Sprint(is, int(e))}
		},
		"Deep": func(h api.Heap) told {
			d, e := chain.Deep(h, n)
			return told{rest: fmt.Sprint(d, int(e))}
		},
		"Live": func(h api.Heap) told {
			is, e := chain.Live(h, n)
			return told{rest: fmt.Sprint(is, int(e))}
		},
	}
}

func holdMemory(t *testing.T, h api.Heap, n, m int) {
	t.Helper()
	for name, call := range calls(n, m) {
		if s := misuse(h, call); s != "" {
			t.Error(name, brief(h), n, m, s)
		}
	}
}

func TestMemory(t *testing.T) {
	for n := -1; n <= houseSize; n++ {
		for _, m := range []int{n, aPlain, ofArray, gone, houseSize} {
			holdMemory(t, house(), n, m)
		}
	}
	for n := range 71 {
		holdMemory(t, tower(array(null, 1, prop("0", null)), 70), n, 70-n)
	}
	for _, h := range append(refused()[2:], api.Heap{}, two(), heapOf(revoked(api.Func))) {
		holdMemory(t, h, 0, 0)
	}
	holdMemory(t, many(api.MaxObjects), 0, 1)
}

// Objects of a heap that is handed in may share their properties; those of what is answered do not.
func TestMemoryThatIsShared(t *testing.T) {
	shared := []api.Prop{prop("a", null), prop("b", null), prop("c", null), prop("d", null)}
	h := heapOf(plain(null, shared[:2]...), plain(null, shared[:3]...), function(null, shared...), proxy(thing(1), maker(2)))
	was := show(h)
	made, _, _ := chain.Make(h, 3, 0)
	gone, _ := chain.Revoke(h, 3)
	for _, after := range []api.Heap{made, gone} {
		if len(after.Objects) < 4 || shares(after) || show(h) != was {
			t.Error(brief(after))
		}
	}
}
