package heap_test

import (
	"math"
	"slices"
	"testing"

	"bailiff/api"
	"bailiff/heap"
)

// P11.2

func TestExamplesOfNewOfAndPut(t *testing.T) {
	h := two()
	p := proxy(thing(0), thing(1))
	holdNew(t, h, p, heapOf(h.Objects[0], h.Objects[1], p), 2, api.OK)
	holdNew(t, h, plain(callable(0)), api.Heap{}, 0, api.ErrHeap)
	holdNew(t, h, proxy(thing(2), thing(0)), api.Heap{}, 0, api.ErrHeap)
	holdPut(t, h, 0, plain(thing(1)), api.Heap{}, api.ErrHeap)
	holdOf(t, h, 2, api.Object{}, api.ErrArg)
	holdOf(t, h, -1, api.Object{}, api.ErrArg)
}

func holdNew(t *testing.T, h api.Heap, o api.Object, want api.Heap, n int, e api.Errno) {
	t.Helper()
	if got, m, g := heap.New(h, o); !equal(got, want) || m != n || g != e {
		t.Error("New", brief(h), brief(heapOf(o)), brief(got), m, int(g))
	}
}

func holdPut(t *testing.T, h api.Heap, n int, o api.Object, want api.Heap, e api.Errno) {
	t.Helper()
	if got, g := heap.Put(h, n, o); !equal(got, want) || g != e {
		t.Error("Put", brief(h), n, brief(heapOf(o)), brief(got), int(g))
	}
}

func holdOf(t *testing.T, h api.Heap, n int, want api.Object, e api.Errno) {
	t.Helper()
	if got, g := heap.Of(h, n); !equal(heapOf(got), heapOf(want)) || g != e {
		t.Error("Of", brief(h), n, brief(heapOf(got)), int(g))
	}
}

// holdMore holds New of an object against what the heap is with it behind.
func holdMore(t *testing.T, h api.Heap, o api.Object) bool {
	t.Helper()
	n := len(h.Objects)
	want := heapOf(append(slices.Clone(h.Objects), o)...)
	if !well(want) {
		holdNew(t, h, o, api.Heap{}, 0, api.ErrHeap)
		return false
	}
	holdNew(t, h, o, want, n, api.OK)
	holdAll(t, want)
	return true
}

// holdAll holds Of of all objects.
func holdAll(t *testing.T, h api.Heap) {
	t.Helper()
	for i, o := range h.Objects {
		holdOf(t, h, i, o, api.OK)
	}
}

// holdOther holds Put of an object against what the heap is with it in the place of n.
func holdOther(t *testing.T, h api.Heap, n int, o api.Object) bool {
	t.Helper()
	want := heapOf(slices.Clone(h.Objects)...)
	want.Objects[n] = o
	if !well(want) {
		holdPut(t, h, n, o, api.Heap{}, api.ErrHeap)
		return false
	}
	holdPut(t, h, n, o, want, api.OK)
	holdAll(t, want)
	return true
}

// Each object that may be in some small heap or may not, behind each of those that may be, and in the place of each of their objects.
func TestNewAndPutOfAllSmall(t *testing.T) {
	l := some()
	hold := func(h api.Heap) (more, other int) {
		for _, o := range l {
			if holdMore(t, h, o) {
				more++
			}
			for n := range h.Objects {
				if holdOther(t, h, n, o) {
					other++
				}
			}
		}
		return more, other
	}
	more, other := hold(api.Heap{})
	for _, a := range l {
		for _, b := range append(l, api.Object{}) {
			h := heapOf(a, b)
			if b.Kind == 0 {
				h = heapOf(a)
			}
			if well(h) {
				m, o := hold(h)
				more, other = more+m, other+o
			}
		}
	}
	if more < 1000 || other < 1000 {
		t.Error(more, other)
	}
}

// What one object of house is put in the place of another one is refused where others have of it what they had.
func TestPutOfHouse(t *testing.T) {
	h := house()
	count := 0
	for n := range h.Objects {
		for _, o := range append(slices.Clone(h.Objects), some()...) {
			if holdOther(t, h, n, o) {
				count++
			}
		}
	}
	if count < 100 {
		t.Error(count)
	}
	for _, o := range append(slices.Clone(h.Objects), some()...) {
		holdMore(t, h, o)
	}
}

// What is put may have itself, but as its prototype, or behind it.
func TestNewOfItself(t *testing.T) {
	h := two()
	for _, c := range []struct {
		o   api.Object
		may bool
	}{
		{plain(null, of("me"), usual(thing(2))), true},
		{function(null, of("me"), both(maker(2), maker(2))), true},
		{function(null, of("me"), usual(thing(2))), false},
		{plain(null, of("next"), usual(thing(3))), false},
		{plain(thing(2)), false},
		{proxy(thing(2), thing(0)), false},
		{proxy(thing(0), thing(2)), false},
		{native(null, false, callable(2)), false},
	} {
		if holdMore(t, h, c.o) != c.may {
			t.Error(brief(heapOf(c.o)))
		}
	}
	holdOther(t, h, 0, plain(thing(0)))
	holdOther(t, h, 1, plain(thing(1)))
	holdOther(t, h, 1, plain(null, of("me"), usual(thing(1))))
	holdOther(t, h, 1, proxy(thing(0), thing(0)))
	holdOther(t, h, 0, proxy(thing(1), thing(1)))
}

func TestNewOfAFullHeap(t *testing.T) {
	h := many(api.MaxObjects)
	for _, o := range []api.Object{plain(null), {}, plain(thing(api.MaxObjects))} { // whatever it is
		holdNew(t, h, o, api.Heap{}, 0, api.ErrMany)
	}
	holdOf(t, h, api.MaxObjects-1, h.Objects[0], api.OK)
	holdOf(t, h, api.MaxObjects, api.Object{}, api.ErrArg)
	last := many(api.MaxObjects)
	last.Objects[api.MaxObjects-1] = plain(thing(0))
	holdPut(t, h, api.MaxObjects-1, plain(thing(0)), last, api.OK)
	h = many(api.MaxObjects - 1)
	holdNew(t, h, plain(thing(0)), last, api.MaxObjects-1, api.OK)
	holdNew(t, h, plain(thing(api.MaxObjects)), api.Heap{}, 0, api.ErrHeap)
}

func TestRefusedNumbers(t *testing.T) {
	for _, h := range []api.Heap{{}, two(), house()} {
		size := len(h.Objects)
		for _, n := range []int{-1, -2, math.MinInt, size, size + 1, math.MaxInt, api.MaxObjects} {
			holdOf(t, h, n, api.Object{}, api.ErrArg)
			holdPut(t, h, n, plain(null), api.Heap{}, api.ErrArg)
			holdPut(t, h, n, api.Object{}, api.Heap{}, api.ErrArg) // whatever it is
		}
	}
}

// refused are heaps that may not be.
func refused() []api.Heap {
	l := []api.Heap{many(api.MaxObjects + 1), heapOf(api.Object{}), heapOf(plain(thing(0))), heapOf(plain(undefined)), heapOf(plain(thing(1)), plain(thing(0))), heapOf(proxy(thing(0), thing(0))), heapOf(plain(null, of("a"), usual(number(0.5)))), heapOf(plain(null, of("a"), api.Desc{Has: 1}))}
	for n := range houseSize {
		h := house()
		h.Objects[n].Kind = 0
		l = append(l, h)
	}
	return l
}

// Check's error comes first in all calls, and beside it stands nothing: ahead of what else is wrong, and where what is put would mend it.
func TestCheckComesFirst(t *testing.T) {
	for _, h := range refused() {
		for _, o := range []api.Object{plain(null), {}} {
			holdNew(t, h, o, api.Heap{}, 0, api.ErrHeap)
			for _, n := range []int{0, -1, len(h.Objects)} {
				holdPut(t, h, n, o, api.Heap{}, api.ErrHeap)
			}
		}
		for _, n := range []int{0, -1, len(h.Objects)} {
			holdOf(t, h, n, api.Object{}, api.ErrHeap)
			holdReach(t, h, []int{n}, nil, api.ErrHeap)
		}
		holdReach(t, h, make([]int, api.MaxObjects+1), nil, api.ErrHeap)
		holdReach(t, h, nil, nil, api.ErrHeap)
		holdText(t, h, "", api.ErrHeap)
	}
}

// P11.7

// A long run of News and Puts, made by a short rule: what is told may be, and has just what was put.
func TestARun(t *testing.T) {
	seed := uint32(1)
	next := func(n int) int {
		seed = seed*1664525 + 1013904223
		return int(seed>>8) % n
	}
	l := append(house().Objects, some()...)
	h := house()
	puts, news := 0, 0
	for range 3000 {
		o, was := l[next(len(l))], twin(h)
		n := next(len(h.Objects) + 1)
		after, e := h, api.OK
		if n == len(h.Objects) {
			after, n, e = heap.New(h, o)
		} else {
			after, e = heap.Put(h, n, o)
		}
		if !equal(h, was) {
			t.Fatal(brief(heapOf(o)), brief(was))
		}
		if e != api.OK {
			continue
		}
		got, _ := heap.Of(after, n)
		if !well(after) || heap.Check(after) != api.OK || !equal(heapOf(got), heapOf(o)) {
			t.Fatal(brief(heapOf(o)), brief(was), brief(after))
		}
		if n == len(was.Objects) {
			news++
		} else {
			puts++
			after.Objects[n], was.Objects[n] = api.Object{}, api.Object{}
		}
		if !equal(heapOf(after.Objects[:len(was.Objects)]...), was) {
			t.Fatal(brief(heapOf(o)), brief(was), brief(after))
		}
		after.Objects[n] = got
		if h = after; len(h.Objects) > 40 {
			h = house()
		}
	}
	if puts < 300 || news < 30 {
		t.Error(puts, news)
	}
}

// A heap filled one by one, to the last that has room.
func TestFilled(t *testing.T) {
	h := many(api.MaxObjects - 100)
	for n := api.MaxObjects - 100; n < api.MaxObjects; n++ {
		after, m, e := heap.New(h, plain(thing(n-1)))
		if e != api.OK || m != n {
			t.Fatal(n, m, int(e))
		}
		h = after
	}
	holdNew(t, h, plain(null), api.Heap{}, 0, api.ErrMany)
	holdCheck(t, h, true)
	holdOf(t, h, api.MaxObjects-1, plain(thing(api.MaxObjects-2)), api.OK)
}
