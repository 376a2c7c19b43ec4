package exotic_test

import (
	"math"
	"slices"
	"testing"

	"bailiff/api"
	"bailiff/exotic"
	"bailiff/heap"
)

func holdLength(t *testing.T, h api.Heap, n, want int, writable bool, e api.Errno) {
	t.Helper()
	if got, w, g := exotic.Length(h, n); got != want || w != writable || g != e {
		t.Error("Length", brief(h), n, got, w, int(g))
	}
}

func holdMake(t *testing.T, h api.Heap, l []api.Value, proto api.Value, want api.Heap, n int, e api.Errno) {
	t.Helper()
	if got, m, g := exotic.Make(h, l, proto); !heap.Same(got, want) || m != n || g != e {
		t.Error("Make", brief(h), len(l), showValue(proto), brief(got), m, int(g))
	}
}

func holdBox(t *testing.T, h api.Heap, s string, proto api.Value, want api.Heap, n int, e api.Errno) {
	t.Helper()
	if got, m, g := exotic.Box(h, s, proto); !heap.Same(got, want) || m != n || g != e {
		t.Error("Box", brief(h), len(s), showValue(proto), brief(got), m, int(g))
	}
}

// behind is a heap with one more object.
func behind(h api.Heap, o api.Object) api.Heap {
	return heapOf(append(slices.Clone(h.Objects), o)...)
}

// P13.4

func TestLength(t *testing.T) {
	h := house()
	holdLength(t, h, anArray, 3, true, api.OK)
	holdLength(t, h, anEmpty, 0, true, api.OK)
	holdLength(t, h, aFixed, 9, true, api.OK)
	holdLength(t, h, aLocked, 2, false, api.OK)
	holdLength(t, h, aShut, 4, true, api.OK)
	holdLength(t, h, aSealed, 2, false, api.OK)
	for _, n := range slices.Concat(plains(), boxes(), proxies(), []int{-1, houseSize, houseSize + 1, math.MinInt, math.MaxInt}) {
		holdLength(t, h, n, 0, false, api.ErrArg)
	}
	holdLength(t, api.Heap{}, 0, 0, false, api.ErrArg)
	for i := range api.MaxLength + 1 {
		holdLength(t, heapOf(array(null, float64(i))), 0, i, true, api.OK)
	}
	for _, h := range refused() {
		for _, n := range []int{0, anArray, -1, len(h.Objects)} {
			holdLength(t, h, n, 0, false, api.ErrHeap)
		}
	}
}

// P13.5

func TestMake(t *testing.T) {
	holdMake(t, api.Heap{}, []api.Value{number(5), number(6), number(7)}, null, of567(), 0, api.OK)
	holdMake(t, api.Heap{}, nil, null, heapOf(array(null, 0)), 0, api.OK)
	holdMake(t, api.Heap{}, []api.Value{}, null, heapOf(array(null, 0)), 0, api.OK)
	h := house()
	l := append(values(), undefined, null, number(nan), text(long(4096)), api.Value{Kind: api.Boolean, Num: 1}, api.Value{Kind: api.Symbol, Ref: 9})
	var elements []any
	for i, v := range l {
		elements = append(elements, element(i), usual(v))
	}
	for _, proto := range append(values(), null) { // any object may be one, a proxy, too
		holdMake(t, h, l, proto, behind(h, array(proto, float64(len(l)), elements...)), houseSize, api.OK)
		holdMake(t, h, nil, proto, behind(h, array(proto, 0)), houseSize, api.OK)
	}
}

// numbers are so many values.
func numbers(n int) []api.Value {
	var out []api.Value
	for i := range n {
		out = append(out, number(float64(i)))
	}
	return out
}

func TestMakeOfMany(t *testing.T) {
	for _, n := range []int{1, 9, 10, 11, 100, 1000, api.MaxProps - 1} {
		var elements []any
		for i := range n {
			elements = append(elements, element(i), usual(number(float64(i))))
		}
		holdMake(t, api.Heap{}, numbers(n), null, heapOf(array(null, float64(n), elements...)), 0, api.OK)
	}
	for _, n := range []int{api.MaxProps, api.MaxProps + 1, 5000} {
		holdMake(t, api.Heap{}, numbers(n), null, api.Heap{}, 0, api.ErrMany)
		holdMake(t, api.Heap{}, make([]api.Value, n), undefined, api.Heap{}, 0, api.ErrMany)
		holdMake(t, api.Heap{}, slices.Repeat([]api.Value{thing(9)}, n), null, api.Heap{}, 0, api.ErrMany)
	}
	h := many(api.MaxObjects - 1)
	last := api.MaxObjects - 1
	holdMake(t, h, nil, thing(3), behind(h, array(thing(3), 0)), last, api.OK)
	holdBox(t, h, "a", thing(3), behind(h, boxed(thing(3), "a")), last, api.OK)
	h = many(api.MaxObjects)
	holdMake(t, h, nil, null, api.Heap{}, 0, api.ErrMany)
	holdMake(t, h, []api.Value{thing(-1)}, undefined, api.Heap{}, 0, api.ErrMany)
	holdMake(t, h, []api.Value{thing(api.MaxObjects)}, null, api.Heap{}, 0, api.ErrMany)
	holdBox(t, h, "", null, api.Heap{}, 0, api.ErrMany)
	holdBox(t, h, long(4097), undefined, api.Heap{}, 0, api.ErrMany)
}

func TestErrorsOfMakeAndBox(t *testing.T) {
	h := house()
	for _, v := range append(wrong(), undefined, number(0), text("null"), api.Value{Kind: api.Boolean}, api.Value{Kind: api.Symbol}) {
		holdMake(t, h, nil, v, api.Heap{}, 0, api.ErrHeap)
		holdMake(t, h, numbers(3), v, api.Heap{}, 0, api.ErrHeap)
		holdBox(t, h, "a", v, api.Heap{}, 0, api.ErrHeap)
	}
	for _, v := range wrong() {
		holdMake(t, h, []api.Value{v}, null, api.Heap{}, 0, api.ErrHeap)
		holdMake(t, h, []api.Value{null, number(1), v, null}, null, api.Heap{}, 0, api.ErrHeap)
	}
	for _, v := range []api.Value{thing(houseSize), thing(houseSize + 1), maker(houseSize)} { // the number that it will have is no object's yet
		holdMake(t, h, []api.Value{v}, null, api.Heap{}, 0, api.ErrHeap)
		holdMake(t, h, nil, v, api.Heap{}, 0, api.ErrHeap)
		holdBox(t, h, "", v, api.Heap{}, 0, api.ErrHeap)
	}
	holdMake(t, api.Heap{}, []api.Value{thing(0)}, null, api.Heap{}, 0, api.ErrHeap)
	holdBox(t, h, long(4096), null, behind(h, boxed(null, long(4096))), houseSize, api.OK)
	holdBox(t, h, long(4097), null, api.Heap{}, 0, api.ErrHeap)
	for _, h := range refused() {
		holdMake(t, h, nil, null, api.Heap{}, 0, api.ErrHeap)
		holdMake(t, h, numbers(5000), undefined, api.Heap{}, 0, api.ErrHeap)
		holdBox(t, h, "a", null, api.Heap{}, 0, api.ErrHeap)
		holdBox(t, h, long(4097), undefined, api.Heap{}, 0, api.ErrHeap)
	}
}

func TestBox(t *testing.T) {
	h := house()
	for _, proto := range append(values(), null) {
		for _, s := range []string{"", "a", "ab", "\x00\xff", long(1024), long(4096)} {
			holdBox(t, h, s, proto, behind(h, boxed(proto, s)), houseSize, api.OK)
		}
	}
	holdBox(t, api.Heap{}, "", null, heapOf(boxed(null, "")), 0, api.OK)
}
