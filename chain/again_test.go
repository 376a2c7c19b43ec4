package chain_test

import (
	"slices"
	"testing"

	"bailiff/api"
	"bailiff/chain"
	"bailiff/heap"
)

// A reading is what Down, Deep, Live and IsArray tell of an object.
type reading struct {
	down    []int
	cut     bool
	deep    int
	live    bool
	array   bool
	arrayIs api.Errno
}

// line is an object and all that is behind it: the chapter's words once more, in another way.
func line(h api.Heap, n int) []int {
	o := h.Objects[n]
	if o.Kind != 6 || o.Target.Kind == api.Null {
		return []int{n}
	}
	return append([]int{n}, line(h, o.Target.Ref)...)
}

// read is a second reading of the four, of an object that is there.
func read(h api.Heap, n int) reading {
	l := line(h, n)
	last := h.Objects[l[len(l)-1]]
	r := reading{down: l[1:], live: len(l) > 1, cut: last.Kind == 6}
	for _, m := range l {
		if h.Objects[m].Kind == 6 {
			r.deep++
		}
	}
	if r.cut || r.deep > 64 {
		r.arrayIs = api.ErrChain
		return r
	}
	r.array = last.Kind == 2
	return r
}

// holdRead holds the four against what they should tell of an object that is there.
func holdRead(t *testing.T, h api.Heap, n int, want reading) {
	t.Helper()
	if l, cut, e := chain.Down(h, n); !slices.Equal(l, want.down) || cut != want.cut || e != api.OK {
		t.Error("Down", brief(h), n, l, cut, int(e))
	}
	if d, e := chain.Deep(h, n); d != want.deep || e != api.OK {
		t.Error("Deep", brief(h), n, d, int(e))
	}
	if is, e := chain.Live(h, n); is != want.live || e != api.OK {
		t.Error("Live", brief(h), n, is, int(e))
	}
	if is, e := chain.IsArray(h, n); is != want.array || e != want.arrayIs {
		t.Error("IsArray", brief(h), n, is, int(e))
	}
}

// refuseRead holds that each of the four tells an error, and nothing else.
func refuseRead(t *testing.T, h api.Heap, n int, want api.Errno) {
	t.Helper()
	if l, cut, e := chain.Down(h, n); len(l) != 0 || cut || e != want {
		t.Error("Down", brief(h), n, l, cut, int(e))
	}
	if d, e := chain.Deep(h, n); d != 0 || e != want {
		t.Error("Deep", brief(h), n, d, int(e))
	}
	if is, e := chain.Live(h, n); is || e != want {
		t.Error("Live", brief(h), n, is, int(e))
	}
	if is, e := chain.IsArray(h, n); is || e != want {
		t.Error("IsArray", brief(h), n, is, int(e))
	}
}

func holdMake(t *testing.T, h api.Heap, target, handler int, want api.Heap, n int, e api.Errno) {
	t.Helper()
	if got, m, g := chain.Make(h, target, handler); !heap.Same(got, want) || m != n || g != e {
		t.Error("Make", brief(h), target, handler, brief(got), m, int(g))
	}
}

func holdRevoke(t *testing.T, h api.Heap, n int, want api.Heap, e api.Errno) {
	t.Helper()
	if got, g := chain.Revoke(h, n); !heap.Same(got, want) || g != e {
		t.Error("Revoke", brief(h), n, brief(got), int(g))
	}
}

func thereIs(h api.Heap, n int) bool { return 0 <= n && n < len(h.Objects) }

// isGone tells whether an object is a revoked proxy.
func isGone(h api.Heap, n int) bool { return h.Objects[n].Kind == 6 && h.Objects[n].Target == null }

// madeAgain is a second reading of Make, of a heap that may be.
func madeAgain(h api.Heap, target, handler int) (api.Heap, int, api.Errno) {
	switch {
	case !thereIs(h, target) || !thereIs(h, handler):
		return api.Heap{}, 0, api.ErrArg
	case isGone(h, target) || isGone(h, handler):
		return api.Heap{}, 0, api.ErrChain
	case len(h.Objects) == 4096:
		return api.Heap{}, 0, api.ErrMany
	}
	return heapOf(append(slices.Clone(h.Objects), proxy(value(h, target), value(h, handler)))...), len(h.Objects), api.OK
}

// revokedAgain is a second reading of Revoke, of a heap that may be.
func revokedAgain(h api.Heap, n int) (api.Heap, api.Errno) {
	if !thereIs(h, n) || h.Objects[n].Kind != 6 {
		return api.Heap{}, api.ErrArg
	}
	l := slices.Clone(h.Objects)
	l[n] = revoked(value(h, n).Kind)
	return heapOf(l...), api.OK
}

// holdAll holds each call of a heap that may be, of all its objects and of numbers that are none's, against the second reading.
func holdAll(t *testing.T, h api.Heap) {
	t.Helper()
	if heap.Check(h) != api.OK {
		t.Fatal("a heap that may not be", brief(h))
	}
	l := numbersOf(h)
	for _, n := range l {
		if thereIs(h, n) {
			holdRead(t, h, n, read(h, n))
		} else {
			refuseRead(t, h, n, api.ErrArg)
		}
		want, e := revokedAgain(h, n)
		holdRevoke(t, h, n, want, e)
		for _, m := range l {
			want, made, e := madeAgain(h, n, m)
			holdMake(t, h, n, m, want, made, e)
		}
	}
}

func TestHouse(t *testing.T) { holdAll(t, house()) }

func TestEmptyHeap(t *testing.T) { holdAll(t, api.Heap{}) }

// Each heap of few objects, which are proxies of each of those ahead of them, or of other kinds.
func TestAllSmallHeaps(t *testing.T) {
	first := []api.Object{plain(null), array(null, 0), native(false, undefined), function(null), revoked(api.Thing), revoked(api.Maker)}
	var grow func(h api.Heap)
	grow = func(h api.Heap) {
		holdAll(t, h)
		if len(h.Objects) == 3 || t.Failed() {
			return
		}
		l := slices.Clone(first)
		for target := range h.Objects {
			for handler := range h.Objects {
				l = append(l, proxy(value(h, target), value(h, handler)))
			}
			if h.Objects[target].Kind == 6 {
				l = append(l, native(target%2 == 0, value(h, target)))
			}
		}
		for _, o := range l {
			grow(heapOf(append(slices.Clone(h.Objects), o)...))
		}
	}
	grow(api.Heap{})
}

// Heaps of some more objects, made by a short rule: in them proxies stand deeper in one another.
func TestMadeHeaps(t *testing.T) {
	next := rule(14)
	depths := map[int]int{}
	for range 150 {
		h := heapOf([]api.Object{plain(null), array(null, 0), function(null), native(false, undefined), boxed(null, "ab")}[next(5)])
		for n := 1; n < 12; n++ {
			switch i := next(12); {
			case i < 9:
				near := n - 1 - next(min(n, 2))
				h.Objects = append(h.Objects, proxy(value(h, near), value(h, next(n))))
			case i == 9:
				h.Objects = append(h.Objects, array(null, 0))
			case i == 10:
				h.Objects = append(h.Objects, revoked(api.Thing+uint8(next(3))))
			default:
				h.Objects = append(h.Objects, plain(value(h, next(n))))
			}
		}
		holdAll(t, h)
		for n := range h.Objects {
			depths[read(h, n).deep]++
		}
		if t.Failed() {
			return
		}
	}
	for d := range 8 {
		if depths[d] < 20 {
			t.Error(d, depths)
		}
	}
}

// A heap that may not be is told ahead of all else.
func TestHeapsThatMayNotBe(t *testing.T) {
	for _, h := range refused() {
		for _, n := range []int{0, 1, len(h.Objects) - 1, len(h.Objects), -1} {
			refuseRead(t, h, n, api.ErrHeap)
			holdRevoke(t, h, n, api.Heap{}, api.ErrHeap)
			for _, m := range []int{0, 1, -1} {
				holdMake(t, h, n, m, api.Heap{}, 0, api.ErrHeap)
				holdMake(t, h, m, n, api.Heap{}, 0, api.ErrHeap)
			}
		}
	}
}
