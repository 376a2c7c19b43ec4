package exotic_test

import (
	"fmt"
	"slices"
	"testing"

	"bailiff/api"
	"bailiff/exotic"
	"bailiff/heap"
)

// P13.6

// spoil writes over all of a heap's memory, room behind included.
func spoil(h api.Heap) {
	l := h.Objects[:cap(h.Objects)]
	for i := range l {
		spoilProps(l[i].Props)
		l[i] = api.Object{Kind: 99, Text: "junk"}
	}
}

func spoilProps(l []api.Prop) {
	l = l[:cap(l)]
	for i := range l {
		l[i] = api.Prop{Key: of("junk")}
	}
}

func spoilKeys(l []api.Key) {
	l = l[:cap(l)]
	for i := range l {
		l[i] = of("junk")
	}
}

// roomy is a twin of a heap in which each list has room behind it, with something in it.
func roomy(h api.Heap) api.Heap {
	l := append(slices.Clone(h.Objects), plain(null), plain(null))
	for i := range l {
		room := append(slices.Clone(l[i].Props), props(of("room"), usual(number(1)), of("more"), stuck(number(2)))...)
		l[i].Props = room[:len(l[i].Props)]
	}
	return api.Heap{Objects: l[:len(h.Objects)]}
}

// whole is all that a heap's memory has, its room included.
func whole(h api.Heap) string {
	out := ""
	for _, o := range h.Objects[:cap(h.Objects)] {
		o.Props = o.Props[:cap(o.Props)]
		out += show(heapOf(o))
	}
	return out
}

// told is what a call tells: a heap, and keys.
type told struct {
	heap api.Heap
	keys []api.Key
	text string
}

func (o told) show() string { return show(o.heap) + showOut(api.Out{Keys: o.keys}) + o.text }

func (o told) spoil() {
	spoil(o.heap)
	spoilKeys(o.keys)
}

// misuse tells what is wrong with what a call leaves of the heap that it is handed, and with the memory of what it answers.
func misuse(h api.Heap, call func(h api.Heap) told) string {
	h = roomy(h)
	was := whole(h)
	first := call(h)
	want := first.show()
	if whole(h) != was {
		return "changes what is handed in"
	}
	again := call(h)
	first.spoil()
	switch {
	case whole(h) != was:
		return "answers what is handed in"
	case again.show() != want:
		return "answers one memory twice"
	case call(h).show() != want:
		return "keeps what it answered"
	}
	spoil(h)
	if again.show() != want {
		return "answers what hangs on what is handed in"
	}
	return shares(again)
}

// shares tells whether two lists of what a call tells share memory.
func shares(o told) string {
	l := o.heap.Objects
	for i := range l {
		spoilProps(l[i].Props)
		l[i].Props = nil
		for k := range l {
			for _, p := range l[k].Props {
				if p.Key == of("junk") {
					return "answers lists that share memory"
				}
			}
		}
	}
	return ""
}

func holdMemory(t *testing.T, h api.Heap, a api.Ask) {
	t.Helper()
	s := misuse(h, func(h api.Heap) told {
		after, out, _ := exotic.Do(h, a)
		return told{heap: after, keys: out.Keys, text: showOut(out)}
	})
	if s != "" {
		t.Error("Do", brief(h), showAsk(a), s)
	}
}

func holdMemoryOfOthers(t *testing.T, h api.Heap, n int, v api.Value) {
	t.Helper()
	calls := map[string]func(h api.Heap) told{
		"Make": func(h api.Heap) told {
			l := []api.Value{null, number(1), v, undefined}
			after, n, e := exotic.Make(h, l[:3], v)
			if l[0] != null || l[3] != undefined {
				t.Error("Make changes the list")
			}
			l[0] = number(9)
			return told{heap: after, text: fmt.Sprint(n, int(e))}
		},
		"Box": func(h api.Heap) told {
			after, n, e := exotic.Box(h, "ab", v)
			return told{heap: after, text: fmt.Sprint(n, int(e))}
		},
		"Length": func(h api.Heap) told {
			n, w, e := exotic.Length(h, n)
			return told{text: fmt.Sprint(n, w, int(e))}
		},
	}
	for name, call := range calls {
		if s := misuse(h, call); s != "" {
			t.Error(name, brief(h), n, showValue(v), s)
		}
	}
}

// tasks are asks of an object that leave it as it is, and asks that change it, of all ways on.
func tasks(n int) []api.Ask {
	l := append(eight(n), setProto(n, thing(aProxy)), setProto(n, undefined), define(n, of("q"), usual(number(8))), erase(n, of("10")), erase(n, element(1)), get(n, of("q")))
	for _, d := range []api.Desc{{}, {Has: 2}, {Has: 4}, {Has: 5}, value(0), value(1), value(2), value(9), value(2000), sized(1, api.Desc{Has: 2})} {
		l = append(l, define(n, length, d), define(n, element(0), d), define(n, element(8), d), define(n, element(1000), d), define(n, of("a"), d))
	}
	for _, k := range []api.Key{length, element(0), element(1), of("1024"), symbol(0)} {
		l = append(l, get(n, k), erase(n, k))
	}
	return append(l, api.Ask{Method: api.Set, Object: n})
}

func TestMemory(t *testing.T) {
	for _, n := range append(exotics(), aPlain, aProxy) {
		for _, a := range tasks(n) {
			holdMemory(t, house(), a)
		}
		holdMemoryOfOthers(t, house(), n, values()[n])
	}
	for _, a := range tasks(0) {
		holdMemory(t, of567(), a)
		holdMemory(t, api.Heap{}, a)
		holdMemory(t, heapOf(boxed(null, "ab")), a)
	}
	for _, h := range []api.Heap{{}, of567(), heapOf(boxed(null, "ab"))} {
		for _, v := range []api.Value{null, undefined, thing(0)} {
			holdMemoryOfOthers(t, h, 0, v)
		}
	}
	for _, h := range refused()[1:] {
		for _, a := range tasks(0)[:8] {
			holdMemory(t, h, a)
		}
		holdMemoryOfOthers(t, h, 0, null)
	}
}

// Two objects of a heap that is handed in may share their properties, those of what is answered do not; what is asked of one leaves the other.
func TestMemoryThatIsShared(t *testing.T) {
	made := func() []api.Prop {
		return array(null, 5, element(0), usual(null), element(4), usual(null), element(2), usual(null), of("a"), usual(null)).Props
	}
	for _, a := range tasks(1) {
		shared := made()
		o := array(null, 0)
		o.Props = shared[:4]
		h := heapOf(o, o, o)
		after, _, e := hold(t, h, a)
		if e != api.OK {
			continue
		}
		got, _, _ := exotic.Do(h, a)
		if !heap.Same(got, after) || show(heapOf(got.Objects[0], got.Objects[2])) != show(heapOf(o, o)) || show(heapOf(api.Object{Props: shared})) != show(heapOf(api.Object{Props: made()})) {
			t.Error(showAsk(a), brief(got))
		}
		if s := shares(told{heap: got}); s != "" {
			t.Error(showAsk(a), s)
		}
	}
}

// The ask's own list is neither changed nor kept.
func TestMemoryOfArgs(t *testing.T) {
	room := []api.Value{number(1), number(2), number(3)}
	for _, n := range exotics() {
		for _, a := range eight(n) {
			a.Args = room[:2]
			hold(t, house(), a)
		}
	}
	if !slices.Equal(room, []api.Value{number(1), number(2), number(3)}) {
		t.Error(room)
	}
}
