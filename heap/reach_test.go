package heap_test

import (
	"math"
	"slices"
	"testing"

	"bailiff/api"
	"bailiff/heap"
)

// P11.5

func TestExamplesOfReach(t *testing.T) {
	holdReach(t, two(), []int{1}, []int{0, 1}, api.OK)
	holdReach(t, two(), []int{0}, []int{0}, api.OK)
}

func holdReach(t *testing.T, h api.Heap, from, want []int, e api.Errno) {
	t.Helper()
	if got, g := heap.Reach(h, from); !slices.Equal(got, want) || g != e {
		t.Error("Reach", brief(h), from, got, int(g))
	}
}

// leads are the numbers to which one comes from an object at once.
func leads(o api.Object) []int {
	all := []api.Value{o.Proto, o.Target, o.Handler}
	for _, p := range o.Props {
		all = append(all, p.Desc.Value, p.Desc.Get, p.Desc.Set)
	}
	var l []int
	for _, v := range all {
		if v.Kind == api.Thing || v.Kind == api.Func || v.Kind == api.Maker {
			l = append(l, v.Ref)
		}
	}
	return l
}

// closed is a second reading of Reach: as long as there is one more, it is taken.
func closed(h api.Heap, from []int) []int {
	in := make([]bool, len(h.Objects))
	for _, n := range from {
		in[n] = true
	}
	for more := true; more; {
		more = false
		for n, o := range h.Objects {
			for _, to := range leads(o) {
				if in[n] && !in[to] {
					in[to], more = true, true
				}
			}
		}
	}
	var out []int
	for n, is := range in {
		if is {
			out = append(out, n)
		}
	}
	return out
}

// Each way from one object to another one, by itself.
func TestReachOfEachWay(t *testing.T) {
	ways := []api.Object{
		plain(maker(1)), array(maker(1), 0), boxed(maker(1), "a"), function(maker(1)), native(maker(1), false, undefined),
		proxy(maker(1), thing(0)), proxy(thing(0), maker(1)),
		plain(null, of("a"), usual(null), of("b"), usual(maker(1)), of("c"), usual(null)),
		plain(null, of("a"), both(maker(1), undefined)), plain(null, of("a"), both(undefined, maker(1))),
		plain(null, symbol(0), stuck(1), symbol(3), data(maker(1), false, false, false)),
		array(null, 1, of("0"), usual(maker(1))), boxed(null, "a", of("1"), usual(maker(1))), function(null, of("a"), usual(maker(1))), native(null, true, undefined, of("a"), usual(maker(1))),
	}
	for _, o := range ways {
		h := heapOf(plain(null), function(null), o, plain(null))
		holdReach(t, h, []int{2}, closed(h, []int{2}), api.OK)
		if got, _ := heap.Reach(h, []int{2}); !slices.Contains(got, 1) || slices.Contains(got, 3) {
			t.Error(brief(h), got)
		}
	}
	h := heapOf(plain(null), function(null), revoked(true, false), native(null, true, callable(2)), plain(null))
	holdReach(t, h, []int{3}, []int{2, 3}, api.OK)
	h.Objects[2] = proxy(maker(1), thing(0))
	h.Objects[3].Target = maker(2)
	holdReach(t, h, []int{3}, []int{0, 1, 2, 3}, api.OK)
	holdReach(t, h, []int{4}, []int{4}, api.OK)
	h.Objects[2] = revoked(true, true)
	holdReach(t, h, []int{3}, []int{2, 3}, api.OK)
}

// Numbers of what is no object lead nowhere.
func TestReachOfOtherNumbers(t *testing.T) {
	h := heapOf(plain(null, of("a"), usual(number(1)), of("b"), usual(api.Value{Kind: api.Symbol, Ref: 1}), of("1"), usual(text("1")), symbol(1), usual(api.Value{Kind: api.Boolean, Num: 1})), plain(null))
	holdReach(t, h, []int{0}, []int{0}, api.OK)
}

// From all numbers of house, by one, two and three, in any order.
func TestReachOfHouse(t *testing.T) {
	h := house()
	holdReach(t, h, nil, nil, api.OK)
	for a := range houseSize {
		holdReach(t, h, []int{a}, closed(h, []int{a}), api.OK)
		for b := range houseSize {
			holdReach(t, h, []int{a, b}, closed(h, []int{a, b}), api.OK)
			holdReach(t, h, []int{b, a, b}, closed(h, []int{a, b}), api.OK)
		}
	}
	all := closed(h, []int{houseSize - 1, revoker, lateRevoker, ofFunc})
	holdReach(t, h, []int{houseSize - 1, revoker, lateRevoker, ofFunc}, all, api.OK)
	if len(all) < 10 {
		t.Error(all)
	}
}

// All ways in which three objects may have one another as values, loops among them.
func TestReachOfAllWays(t *testing.T) {
	for i := range 1 << 9 {
		h := many(3)
		for n := range 3 {
			for to := range 3 {
				if i>>(3*n+to)&1 == 1 {
					h.Objects[n].Props = append(h.Objects[n].Props, props(numbered(to), usual(thing(to)))...)
				}
			}
		}
		for n := range 3 {
			holdReach(t, h, []int{n}, closed(h, []int{n}), api.OK)
		}
		holdReach(t, h, []int{2, 0}, closed(h, []int{2, 0}), api.OK)
	}
}

func TestReachOfMany(t *testing.T) {
	h := many(api.MaxObjects)
	var all []int
	for n := range h.Objects {
		all = append(all, n)
		if n > 0 {
			h.Objects[n].Props = props(of("o"), usual(thing(n-1)))
		}
	}
	h.Objects[0].Props = props(of("o"), usual(thing(api.MaxObjects-1)))
	holdReach(t, h, []int{77}, all, api.OK)
	holdReach(t, h, all, all, api.OK)
	falling := slices.Clone(all)
	slices.Reverse(falling)
	holdReach(t, many(api.MaxObjects), falling, all, api.OK)
	holdReach(t, two(), make([]int, api.MaxObjects), []int{0}, api.OK)
}

func TestRefusedReach(t *testing.T) {
	for _, h := range []api.Heap{{}, two(), house(), many(api.MaxObjects)} {
		size := len(h.Objects)
		holdReach(t, h, make([]int, api.MaxObjects+1), nil, api.ErrMany)
		holdReach(t, h, slices.Repeat([]int{-1}, api.MaxObjects+1), nil, api.ErrMany)
		holdReach(t, h, make([]int, 3*api.MaxObjects), nil, api.ErrMany)
		for _, n := range []int{-1, size, size + 1, math.MinInt, math.MaxInt} {
			holdReach(t, h, []int{n}, nil, api.ErrArg)
			holdReach(t, h, slices.Repeat([]int{n}, api.MaxObjects), nil, api.ErrArg)
			if size > 0 {
				holdReach(t, h, []int{0, size - 1, n}, nil, api.ErrArg)
				holdReach(t, h, []int{n, 0}, nil, api.ErrArg)
				holdReach(t, h, append(make([]int, api.MaxObjects-1), n), nil, api.ErrArg)
			}
		}
	}
}

// P11.7

func TestReachOfReach(t *testing.T) {
	h := house()
	for a := range houseSize {
		few, _ := heap.Reach(h, []int{a})
		holdReach(t, h, few, few, api.OK)
		for b := range houseSize {
			more, _ := heap.Reach(h, []int{b, a})
			holdReach(t, h, more, more, api.OK)
			for _, n := range few {
				if !slices.Contains(more, n) {
					t.Error(a, b, few, more)
				}
			}
		}
	}
}
