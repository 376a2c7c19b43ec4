package ordinary_test

import (
	"slices"
	"testing"

	"bailiff/api"
	"bailiff/ordinary"
)

// P12.4

// spoil writes over all of a heap's memory, room behind included.
func spoil(h api.Heap) {
	l := h.Objects[:cap(h.Objects)]
	for i := range l {
		spoilProps(l[i].Props)
		l[i] = api.Object{Kind: 99, Text: "junk"}
	}
}

func spoilProps(l []api.Prop) {
	l = l[:cap(l)]
	for i := range l {
		l[i] = api.Prop{Key: of("junk")}
	}
}

func spoilKeys(l []api.Key) {
	l = l[:cap(l)]
	for i := range l {
		l[i] = of("junk")
	}
}

// roomy is a twin of a heap in which each list has room behind it, with something in it.
func roomy(h api.Heap) api.Heap {
	l := append(slices.Clone(h.Objects), plain(null), plain(null))
	for i := range l {
		room := append(slices.Clone(l[i].Props), props(of("room"), usual(number(1)), of("more"), stuck(number(2)))...)
		l[i].Props = room[:len(l[i].Props)]
	}
	return api.Heap{Objects: l[:len(h.Objects)]}
}

// whole is all that a heap's memory has, its room included.
func whole(h api.Heap) string {
	out := ""
	for _, o := range h.Objects[:cap(h.Objects)] {
		o.Props = o.Props[:cap(o.Props)]
		out += show(heapOf(o))
	}
	return out
}

// told is what a call tells: a heap, and keys.
type told struct {
	heap api.Heap
	keys []api.Key
	text string
}

func (o told) show() string { return show(o.heap) + showOut(api.Out{Keys: o.keys}) + o.text }

func (o told) spoil() {
	spoil(o.heap)
	spoilKeys(o.keys)
}

// misuse tells what is wrong with what a call leaves of the heap that it is handed, and with the memory of what it answers.
func misuse(h api.Heap, call func(h api.Heap) told) string {
	h = roomy(h)
	was := whole(h)
	first := call(h)
	want := first.show()
	if whole(h) != was {
		return "changes what is handed in"
	}
	again := call(h)
	first.spoil()
	switch {
	case whole(h) != was:
		return "answers what is handed in"
	case again.show() != want:
		return "answers one memory twice"
	case call(h).show() != want:
		return "keeps what it answered"
	}
	spoil(h)
	if again.show() != want {
		return "answers what hangs on what is handed in"
	}
	return shares(again)
}

// shares tells whether two lists of what a call tells share memory.
func shares(o told) string {
	l := o.heap.Objects
	for i := range l {
		spoilProps(l[i].Props)
		l[i].Props = nil
		for k := range l {
			for _, p := range l[k].Props {
				if p.Key == of("junk") {
					return "answers lists that share memory"
				}
			}
		}
	}
	return ""
}

func holdMemory(t *testing.T, h api.Heap, a api.Ask) {
	t.Helper()
	calls := map[string]func(h api.Heap) told{
		"Do": func(h api.Heap) told {
			after, out, _ := ordinary.Do(h, a)
			return told{heap: after, keys: out.Keys, text: showOut(out)}
		},
		"Keys": func(h api.Heap) told {
			l, _ := ordinary.Keys(h, a.Object)
			return told{keys: l}
		},
		"the others": func(h api.Heap) told {
			d, _, _ := ordinary.Own(h, a.Object, a.Key)
			ordinary.Loops(h, a.Object, a.Value)
			return told{text: showDesc(d)}
		},
	}
	for name, call := range calls {
		if s := misuse(h, call); s != "" {
			t.Error(name, brief(h), showAsk(a), s)
		}
	}
}

// tasks are asks of an object that leave it as it is, and asks that change it.
func tasks(n int) []api.Ask {
	l := append(eight(n), setProto(n, thing(ofThing)), define(n, of("a"), usual(number(8))), define(n, of("q"), usual(number(8))), erase(n, of("10")), erase(n, of("name")), erase(n, of("1")), get(n, of("q")))
	return append(l, define(n, of("a"), api.Desc{Has: 5}), api.Ask{Method: api.Set, Object: n})
}

func TestMemory(t *testing.T) {
	for n := range houseSize {
		for _, a := range tasks(n) {
			holdMemory(t, house(), a)
		}
	}
	for n := range 3 {
		for _, a := range tasks(n) {
			holdMemory(t, two(), a)
			holdMemory(t, api.Heap{}, a)
		}
	}
	for _, h := range refused()[1:] {
		for _, a := range tasks(0) {
			holdMemory(t, h, a)
		}
	}
	o := plain(null)
	o.Props = these(api.MaxProps)
	for _, a := range []api.Ask{define(0, of("a"), usual(null)), define(0, numbered(3), usual(null)), erase(0, numbered(3)), get(0, numbered(3)), keys(0)} {
		holdMemory(t, heapOf(o, plain(null)), a)
	}
}

// Two objects of a heap that is handed in may share their properties, those of what is answered do not; what is asked of one leaves the other.
func TestMemoryThatIsShared(t *testing.T) {
	for _, a := range []api.Ask{define(1, numbered(2), usual(null)), define(1, of("q"), usual(null)), erase(1, numbered(2)), erase(1, numbered(0)), prevent(1), setProto(1, thing(0)), keys(1), get(1, numbered(2))} {
		shared := these(9)
		o := api.Object{Kind: api.Plain, Ext: true, Proto: null, Props: shared[:5]}
		h := heapOf(o, o, o)
		hold(t, h, a)
		after, _, _ := ordinary.Do(h, a)
		if show(heapOf(after.Objects[0], after.Objects[2])) != show(heapOf(o, o)) || show(heapOf(api.Object{Props: shared})) != show(heapOf(api.Object{Props: these(9)})) {
			t.Error(showAsk(a), brief(after))
		}
		if s := shares(told{heap: after}); s != "" {
			t.Error(showAsk(a), s)
		}
	}
}

// The ask's own list is neither changed nor kept.
func TestMemoryOfArgs(t *testing.T) {
	room := []api.Value{number(1), number(2), number(3)}
	for _, a := range eight(aPlain) {
		a.Args = room[:2]
		hold(t, house(), a)
	}
	if !slices.Equal(room, []api.Value{number(1), number(2), number(3)}) {
		t.Error(room)
	}
}
