package heap_test

import (
	"slices"
	"testing"

	"bailiff/api"
	"bailiff/heap"
)

// P11.6

// spoil writes over all of a heap's memory, room behind included.
func spoil(h api.Heap) {
	l := h.Objects[:cap(h.Objects)]
	for i := range l {
		spoilProps(l[i].Props)
		l[i] = api.Object{Kind: 99, Text: "junk"}
	}
}

func spoilProps(l []api.Prop) {
	l = l[:cap(l)]
	for i := range l {
		l[i] = api.Prop{Key: of("junk")}
	}
}

// roomy is a twin of a heap in which each list has room behind it, with something in it.
func roomy(h api.Heap) api.Heap {
	l := append(slices.Clone(h.Objects), plain(null), plain(null))
	for i := range l {
		room := append(slices.Clone(l[i].Props), props(of("room"), usual(number(1)), of("more"), stuck(2))...)
		l[i].Props = room[:len(l[i].Props)]
	}
	return api.Heap{Objects: l[:len(h.Objects)]}
}

// whole is all that a heap's memory has, its room included.
func whole(h api.Heap) string {
	out := ""
	for _, o := range h.Objects[:cap(h.Objects)] {
		o.Props = o.Props[:cap(o.Props)]
		out += show(heapOf(o))
	}
	return out
}

// misuse tells what is wrong with what a call leaves of the heap and the object that it is handed, and with the memory of what it answers.
func misuse(h api.Heap, o api.Object, call func(h api.Heap, o api.Object) api.Heap) string {
	h, with := roomy(h), roomy(heapOf(o))
	was, had := whole(h), whole(with)
	first := call(h, with.Objects[0])
	want := show(first)
	if whole(h) != was || whole(with) != had {
		return "changes what is handed in"
	}
	again := call(h, with.Objects[0])
	spoil(first)
	switch {
	case whole(h) != was || whole(with) != had:
		return "answers what is handed in"
	case show(again) != want:
		return "answers one memory twice"
	case show(call(h, with.Objects[0])) != want:
		return "keeps what it answered"
	}
	spoil(h)
	spoil(with)
	if show(again) != want {
		return "answers what hangs on what is handed in"
	}
	for i := range again.Objects { // no two lists share any
		spoilProps(again.Objects[i].Props)
		again.Objects[i].Props = nil
		for k, o := range again.Objects {
			for _, p := range o.Props {
				if k > i && p.Key == of("junk") {
					return "answers lists that share memory"
				}
			}
		}
	}
	return ""
}

// calls are all calls but Reach, made such that they tell a heap; n is the number that Put and Of are handed.
func calls(n int) map[string]func(h api.Heap, o api.Object) api.Heap {
	return map[string]func(h api.Heap, o api.Object) api.Heap{
		"New": func(h api.Heap, o api.Object) api.Heap {
			out, _, _ := heap.New(h, o)
			return out
		},
		"Put": func(h api.Heap, o api.Object) api.Heap {
			out, _ := heap.Put(h, n, o)
			return out
		},
		"Of": func(h api.Heap, o api.Object) api.Heap {
			out, _ := heap.Of(h, n)
			return heapOf(out)
		},
		"Twin": func(h api.Heap, o api.Object) api.Heap { return heap.Twin(h) },
		"the others": func(h api.Heap, o api.Object) api.Heap {
			heap.Check(h)
			heap.Same(h, h)
			s, _ := heap.Text(h)
			return heapOf(api.Object{Text: s})
		},
	}
}

func holdMemory(t *testing.T, h api.Heap, n int, o api.Object) {
	t.Helper()
	for name, call := range calls(n) {
		if s := misuse(h, o, call); s != "" {
			t.Error(name, brief(h), n, brief(heapOf(o)), s)
		}
	}
}

func TestMemory(t *testing.T) {
	for _, o := range []api.Object{plain(null), plain(null, of("a"), usual(number(1)), of("b"), stuck(2)), {}, plain(thing(77), of("a"), usual(number(1)))} {
		for n := range houseSize {
			holdMemory(t, house(), n, o)
		}
		holdMemory(t, two(), 0, o)
		holdMemory(t, two(), 1, o)
		holdMemory(t, two(), 2, o)
		holdMemory(t, api.Heap{}, 0, o)
		for _, h := range refused()[1:] {
			holdMemory(t, h, 0, o)
		}
	}
}

// Two objects of a heap that is handed in may share their properties, those of what is answered do not.
func TestMemoryThatIsShared(t *testing.T) {
	shared := these(5)
	o := api.Object{Kind: api.Plain, Proto: null, Props: shared}
	h := heapOf(o, o, o)
	after, _, _ := heap.New(h, o)
	put, _ := heap.Put(h, 1, o)
	for _, got := range []api.Heap{heap.Twin(h), after, put} {
		if len(got.Objects) < 3 {
			t.Fatal(brief(got))
		}
		for i := range got.Objects {
			want := these(5)
			if !equal(heapOf(got.Objects[i]), heapOf(api.Object{Kind: api.Plain, Proto: null, Props: want})) {
				t.Error(i, brief(got))
			}
			spoilProps(got.Objects[i].Props)
		}
	}
	if !equal(heapOf(h.Objects[0]), heapOf(api.Object{Kind: api.Plain, Proto: null, Props: these(5)})) {
		t.Error(brief(h))
	}
}

func TestMemoryOfReach(t *testing.T) {
	room := []int{15, 3, 15, 99, 98}
	from := room[:3]
	h := roomy(house())
	was := whole(h)
	first, _ := heap.Reach(h, from)
	want := closed(house(), []int{15, 3})
	again, _ := heap.Reach(h, from)
	if !slices.Equal(first, want) || !slices.Equal(room, []int{15, 3, 15, 99, 98}) || whole(h) != was {
		t.Error(first, room)
	}
	for _, l := range [][]int{first[:cap(first)], room} {
		for i := range l {
			l[i] = -7
		}
		if !slices.Equal(again, want) {
			t.Error(again)
		}
	}
	alone := []int{0} // what is told is the list itself, in other memory
	got, _ := heap.Reach(h, alone)
	alone[0] = 5
	if !slices.Equal(got, []int{0}) || whole(h) != was {
		t.Error(got)
	}
}
