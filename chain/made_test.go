package chain_test

import (
	"fmt"
	"math"
	"slices"
	"strings"

	"bailiff/api"
)

var (
	undefined = api.Value{}
	null      = api.Value{Kind: api.Null}
)

func number(x float64) api.Value { return api.Value{Kind: api.Number, Num: x} }
func thing(n int) api.Value      { return api.Value{Kind: api.Thing, Ref: n} }
func callable(n int) api.Value   { return api.Value{Kind: api.Func, Ref: n} }
func maker(n int) api.Value      { return api.Value{Kind: api.Maker, Ref: n} }

// prop is a property with a value, of the bits that the document tells.
func prop(k string, v api.Value) api.Prop {
	return api.Prop{Key: api.Key{Str: k}, Desc: api.Desc{Has: 51, Value: v, Writable: true, Enumerable: true, Configurable: true}}
}

func heapOf(l ...api.Object) api.Heap { return api.Heap{Objects: l} }

func plain(proto api.Value, l ...api.Prop) api.Object {
	return api.Object{Kind: api.Plain, Proto: proto, Ext: true, Props: l}
}

func array(proto api.Value, length float64, l ...api.Prop) api.Object {
	size := prop("length", number(length))
	size.Desc.Enumerable, size.Desc.Configurable = false, false
	return api.Object{Kind: api.Array, Proto: proto, Ext: true, Props: append([]api.Prop{size}, l...)}
}

func boxed(proto api.Value, s string, l ...api.Prop) api.Object {
	return api.Object{Kind: api.Boxed, Proto: proto, Ext: true, Text: s, Props: l}
}

func function(proto api.Value, l ...api.Prop) api.Object {
	return api.Object{Kind: api.Function, Proto: proto, Ext: true, Calls: true, Makes: true, Props: l}
}

func native(makes bool, target api.Value) api.Object {
	return api.Object{Kind: api.Native, Proto: null, Ext: true, Calls: true, Makes: makes, Target: target}
}

// proxy can do what its target's value tells.
func proxy(target, handler api.Value) api.Object {
	return api.Object{Kind: api.Proxy, Proto: null, Target: target, Handler: handler, Calls: target.Kind >= api.Func, Makes: target.Kind == api.Maker}
}

// revoked can do what such a value tells.
func revoked(kind uint8) api.Object {
	return api.Object{Kind: api.Proxy, Proto: null, Target: null, Handler: null, Calls: kind >= api.Func, Makes: kind == api.Maker}
}

// two is the heap H of chapter 11.
func two() api.Heap { return heapOf(plain(null, prop("a", number(7))), plain(thing(0))) }

// The objects of house by what they are.
const (
	aPlain = iota
	aFunction
	aNative
	aMaker
	anArray
	aBoxed
	ofPlain
	ofFunction
	ofNative
	ofArray
	gone
	goneFunc
	goneMaker
	ofGone
	ofOfArray
	third // has a revoked handler
	ofOfGone
	revoker
	lateRevoker
	ofRevoker
	ofGoneMaker
	aChild
	ofChild
	ofBoxed
	otherArray
	ofOther
	ofMaker
	houseSize
)

// house has objects of all kinds, and proxies of them, made anew each time.
func house() api.Heap {
	return heapOf(
		plain(null, prop("a", number(7))),
		function(thing(aPlain), prop("p", thing(gone))),
		native(false, undefined),
		native(true, undefined),
		array(thing(aPlain), 2, prop("0", thing(ofArray)), prop("1", null)),
		boxed(null, "ab", prop("c", callable(goneFunc))),
		proxy(thing(aPlain), thing(anArray)),
		proxy(maker(aFunction), thing(aPlain)),
		proxy(callable(aNative), maker(aFunction)),
		proxy(thing(anArray), thing(ofPlain)),
		revoked(api.Thing),
		revoked(api.Func),
		revoked(api.Maker),
		proxy(thing(gone), thing(aPlain)),
		proxy(thing(ofArray), thing(ofArray)),
		proxy(thing(ofOfArray), thing(gone)),
		proxy(thing(ofGone), thing(anArray)),
		native(false, thing(ofArray)),
		native(true, maker(goneMaker)),
		proxy(callable(revoker), thing(aPlain)),
		proxy(maker(goneMaker), maker(goneMaker)),
		plain(thing(ofArray), prop("p", thing(third)), prop("q", thing(anArray))),
		proxy(thing(aChild), thing(aChild)),
		proxy(thing(aBoxed), thing(ofChild)),
		array(thing(ofGone), 1, prop("0", thing(otherArray))),
		proxy(thing(otherArray), thing(third)),
		proxy(maker(aMaker), callable(ofNative)),
	)
}

// value is an object of a heap as a value.
func value(h api.Heap, n int) api.Value {
	o := h.Objects[n]
	if !o.Calls {
		return thing(n)
	}
	if !o.Makes {
		return callable(n)
	}
	return maker(n)
}

// many are plain objects of the Proto null, closed, without properties.
func many(n int) api.Heap {
	return api.Heap{Objects: slices.Repeat([]api.Object{{Kind: api.Plain, Proto: null}}, n)}
}

// tower is an object with so many proxies above it, the target of each the one below it, its handler the object at the bottom.
func tower(bottom api.Object, n int) api.Heap {
	h := heapOf(bottom)
	for i := range n {
		h.Objects = append(h.Objects, proxy(value(h, i), value(h, 0)))
	}
	return h
}

// refused are heaps that may not be, some of which would lead one round for ever, or out of the heap.
func refused() []api.Heap {
	l := []api.Heap{
		many(api.MaxObjects + 1), tower(plain(null), api.MaxObjects),
		heapOf(api.Object{}), heapOf(plain(undefined)), heapOf(plain(thing(0))), heapOf(plain(thing(1)), plain(thing(0))), heapOf(plain(null, prop("a", number(0.5)))),
		heapOf(proxy(thing(0), thing(0))),
		heapOf(proxy(thing(1), thing(1)), proxy(thing(0), thing(0))),
		heapOf(proxy(thing(1), thing(1)), plain(null)),
		heapOf(plain(null), proxy(thing(2), thing(2)), proxy(thing(1), thing(1))),
		heapOf(plain(null), proxy(thing(-1), thing(0))), heapOf(plain(null), proxy(thing(7), thing(0))), heapOf(plain(null), proxy(thing(math.MaxInt), thing(0))),
		heapOf(plain(null), proxy(thing(0), null)), heapOf(plain(null), proxy(null, thing(0))), heapOf(plain(null), proxy(undefined, undefined)), heapOf(plain(null), proxy(thing(0), undefined)),
		heapOf(plain(null), proxy(callable(0), thing(0))), heapOf(function(null), proxy(callable(0), maker(0))), heapOf(plain(null), proxy(number(0), number(0))),
		heapOf(api.Object{Kind: api.Proxy, Proto: null, Target: null, Handler: null, Makes: true}),
		heapOf(api.Object{Kind: api.Proxy, Proto: null, Target: null, Handler: null, Ext: true}),
	}
	for n := range houseSize {
		h := house()
		h.Objects[n].Kind = 0
		l = append(l, h)
		h = house()
		h.Objects[n].Proto = undefined
		l = append(l, h)
	}
	return l
}

// numbersOf are the numbers of a heap's objects, and some that are none's.
func numbersOf(h api.Heap) []int {
	l := []int{-1, math.MinInt, len(h.Objects), len(h.Objects) + 1, math.MaxInt, 1 << 32, -1 << 32}
	for n := range h.Objects {
		l = append(l, n)
	}
	return l
}

// show is all fields of a heap.
func show(h api.Heap) string {
	var out strings.Builder
	for _, o := range h.Objects {
		fmt.Fprintln(&out, o.Kind, o.Proto, o.Ext, o.Target, o.Handler, o.Text, o.Calls, o.Makes, o.Props)
	}
	return out.String()
}

// brief is show of what is short.
func brief(h api.Heap) string {
	s := show(h)
	if len(s) > 3000 {
		return fmt.Sprint(s[:3000], " .. ", len(h.Objects), " objects")
	}
	return s
}

// rule is a short rule by which numbers below n follow one another.
func rule(seed uint32) func(n int) int {
	return func(n int) int {
		seed = seed*1664525 + 1013904223
		return int(seed>>16) % n
	}
}
