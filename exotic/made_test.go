package exotic_test

import (
	"fmt"
	"math"
	"slices"
	"strings"

	"bailiff/api"
)

var (
	nan       = math.NaN()
	minus     = math.Copysign(0, -1)
	undefined = api.Value{}
	null      = api.Value{Kind: api.Null}
)

func number(x float64) api.Value { return api.Value{Kind: api.Number, Num: x} }
func text(s string) api.Value    { return api.Value{Kind: api.String, Str: s} }
func thing(n int) api.Value      { return api.Value{Kind: api.Thing, Ref: n} }
func callable(n int) api.Value   { return api.Value{Kind: api.Func, Ref: n} }
func maker(n int) api.Value      { return api.Value{Kind: api.Maker, Ref: n} }

func long(n int) string            { return strings.Repeat("x", n) }
func of(s string) api.Key          { return api.Key{Str: s} }
func symbol(n int) api.Key         { return api.Key{Sym: n + 1} }
func numbered(n int) api.Key       { return of(fmt.Sprint("k", n)) }
func element(n int) api.Key        { return of(fmt.Sprint(n)) }
func usual(x api.Value) api.Desc   { return data(x, true, true, true) }
func stuck(x api.Value) api.Desc   { return data(x, false, false, false) }
func both(g, s api.Value) api.Desc { return access(g, s, true, true) }

// data and access are complete descriptors, of the bits that the document tells.
func data(v api.Value, w, e, c bool) api.Desc {
	return api.Desc{Has: 51, Value: v, Writable: w, Enumerable: e, Configurable: c}
}

func access(g, s api.Value, e, c bool) api.Desc {
	return api.Desc{Has: 60, Get: g, Set: s, Enumerable: e, Configurable: c}
}

// only are the fields of a complete descriptor that stand in has.
func only(has uint8, d api.Desc) api.Desc {
	out := api.Desc{Has: has}
	if has&1 != 0 {
		out.Value = d.Value
	}
	if has&4 != 0 {
		out.Get = d.Get
	}
	if has&8 != 0 {
		out.Set = d.Set
	}
	out.Writable = has&2 != 0 && d.Writable
	out.Enumerable = has&16 != 0 && d.Enumerable
	out.Configurable = has&32 != 0 && d.Configurable
	return out
}

// props are properties of keys and descriptors, told one after the other.
func props(l ...any) []api.Prop {
	var out []api.Prop
	for i := 0; i < len(l); i += 2 {
		out = append(out, api.Prop{Key: l[i].(api.Key), Desc: l[i+1].(api.Desc)})
	}
	return out
}

// these are so many properties.
func these(n int) []api.Prop {
	var out []api.Prop
	for i := range n {
		out = append(out, props(numbered(i), usual(number(float64(i))))...)
	}
	return out
}

func heapOf(l ...api.Object) api.Heap { return api.Heap{Objects: l} }

func plain(proto api.Value, l ...any) api.Object {
	return api.Object{Kind: api.Plain, Proto: proto, Ext: true, Props: props(l...)}
}

func array(proto api.Value, length float64, l ...any) api.Object {
	size := props(of("length"), data(number(length), true, false, false))
	return api.Object{Kind: api.Array, Proto: proto, Ext: true, Props: append(size, props(l...)...)}
}

// locked is an array whose length can't be written.
func locked(o api.Object) api.Object {
	o.Props[0].Desc.Writable = false
	return o
}

func boxed(proto api.Value, s string, l ...any) api.Object {
	return api.Object{Kind: api.Boxed, Proto: proto, Ext: true, Text: s, Props: props(l...)}
}

func function(proto api.Value, l ...any) api.Object {
	return api.Object{Kind: api.Function, Proto: proto, Ext: true, Calls: true, Makes: true, Props: props(l...)}
}

func native(proto api.Value, makes bool, target api.Value, l ...any) api.Object {
	return api.Object{Kind: api.Native, Proto: proto, Ext: true, Calls: true, Makes: makes, Target: target, Props: props(l...)}
}

// proxy can do what its target's value tells.
func proxy(target, handler api.Value) api.Object {
	return api.Object{Kind: api.Proxy, Proto: null, Target: target, Handler: handler, Calls: target.Kind >= api.Func, Makes: target.Kind == api.Maker}
}

func revoked() api.Object {
	return api.Object{Kind: api.Proxy, Proto: null, Target: null, Handler: null}
}

func closed(o api.Object) api.Object {
	o.Ext = false
	return o
}

// The objects of house by what they are.
const (
	aPlain = iota
	aFunction
	aNative
	anArray
	anEmpty
	aFixed
	aLocked
	aShut
	aSealed
	aBoxed
	anEmptyBox
	aShutBox
	aLongBox
	aProxy
	aRevoked
	ofArray
	aBoxOfProxy
	houseSize
)

// house has objects of all kinds, made anew each time.
func house() api.Heap {
	return heapOf(
		plain(null, of("a"), usual(number(7)), of("b"), stuck(text("b")), of("1"), usual(null)),
		function(thing(aPlain), of("a"), stuck(number(nan)), of("prototype"), data(thing(aShut), true, false, false)),
		native(maker(aFunction), false, undefined, of("name"), usual(text("f"))),
		array(thing(aPlain), 3, of("0"), usual(number(5)), of("a"), usual(thing(aBoxed)), of("1"), usual(callable(aNative)), symbol(0), stuck(null), of("2"), both(callable(aNative), undefined)),
		array(null, 0),
		array(maker(aFunction), 9, of("8"), usual(null), of("4"), access(undefined, maker(aFunction), true, false), of("1"), stuck(number(nan)), of("6"), usual(number(6)), of("b"), stuck(undefined), of("5"), usual(number(5)), of("0"), usual(text(""))),
		locked(array(thing(anArray), 2, of("1"), usual(text("one")), of("01"), usual(null))),
		closed(array(thing(aBoxed), 4, of("3"), usual(null), of("0"), stuck(thing(aBoxed)), of("1024"), usual(null))),
		locked(closed(array(null, 2, of("0"), stuck(number(1)), of("1"), stuck(number(2))))),
		boxed(thing(aPlain), "ab", of("10"), usual(null), symbol(3), usual(null), of("a"), usual(undefined), of("2"), stuck(thing(anArray)), of("01"), usual(number(1))),
		boxed(null, "", of("0"), usual(text("0"))),
		closed(boxed(thing(aBoxed), "x\xff", of("3"), access(undefined, callable(aNative), true, false), of("z"), usual(number(1)))),
		boxed(thing(anArray), long(1030), of("1024"), usual(number(4)), of("q"), usual(null)),
		proxy(thing(anArray), thing(aBoxed)),
		revoked(),
		plain(thing(anArray), symbol(7), usual(undefined)),
		boxed(thing(aProxy), "\x00"),
	)
}

// exotics are the numbers of house's arrays and string objects, plains those of its plain objects, proxies those of its proxies.
func exotics() []int { return append(arrays(), boxes()...) }
func arrays() []int  { return []int{anArray, anEmpty, aFixed, aLocked, aShut, aSealed} }
func boxes() []int   { return []int{aBoxed, anEmptyBox, aShutBox, aLongBox, aBoxOfProxy} }
func plains() []int  { return []int{aPlain, aFunction, aNative, ofArray} }
func proxies() []int { return []int{aProxy, aRevoked} }

// values are the values of house's objects, each of the Kind that tells what it can do.
func values() []api.Value {
	var out []api.Value
	for n, o := range house().Objects {
		k := api.Thing
		if o.Calls {
			k = api.Func
		}
		if o.Makes {
			k = api.Maker
		}
		out = append(out, api.Value{Kind: k, Ref: n})
	}
	return out
}

// many are plain objects of the Proto null, closed, without properties.
func many(n int) api.Heap {
	return api.Heap{Objects: slices.Repeat([]api.Object{{Kind: api.Plain, Proto: null}}, n)}
}

// refused are heaps that may not be.
func refused() []api.Heap {
	l := []api.Heap{many(api.MaxObjects + 1), heapOf(api.Object{}), heapOf(plain(thing(0))), heapOf(plain(undefined)), heapOf(plain(thing(1)), plain(thing(0))), heapOf(proxy(thing(0), thing(0))), heapOf(plain(null, of("a"), usual(number(0.5)))), heapOf(plain(null, of("a"), api.Desc{Has: 1})), heapOf(plain(thing(-1)))}
	for n := range houseSize {
		h := house()
		h.Objects[n].Kind = 0
		l = append(l, h)
	}
	return append(l, crooked()...)
}

// crooked are heaps with an array, or a string object, that may not be, though a plain one of these properties may.
func crooked() []api.Heap {
	l := []api.Object{
		array(null, 2, of("2"), usual(null)),
		array(null, 0, of("0"), usual(null)),
		array(null, 1025),
		array(null, 1, of("a"), usual(null)),
		{Kind: api.Array, Proto: null, Ext: true},
		{Kind: api.Array, Proto: null, Ext: true, Props: props(of("a"), usual(null), of("length"), data(number(0), true, false, false))},
		{Kind: api.Array, Proto: null, Ext: true, Props: props(of("length"), usual(number(0)))},
		{Kind: api.Array, Proto: null, Ext: true, Props: props(of("length"), stuck(text("0")))},
		{Kind: api.Array, Proto: null, Ext: true, Props: props(of("length"), access(undefined, undefined, false, false))},
		boxed(null, "ab", of("1"), usual(null)),
		boxed(null, "ab", of("length"), usual(null)),
		boxed(null, long(4097)),
		boxed(null, "ab"),
	}
	l[3].Text = "x"
	l[len(l)-1].Calls = true
	var out []api.Heap
	for _, o := range l {
		out = append(out, heapOf(o))
	}
	return out
}

// The asks of the eight, of an object.
func getProto(n int) api.Ask { return api.Ask{Method: 1, Object: n} }
func setProto(n int, v api.Value) api.Ask {
	return api.Ask{Method: 2, Object: n, Value: v}
}
func extensible(n int) api.Ask       { return api.Ask{Method: 3, Object: n} }
func prevent(n int) api.Ask          { return api.Ask{Method: 4, Object: n} }
func get(n int, k api.Key) api.Ask   { return api.Ask{Method: 5, Object: n, Key: k} }
func erase(n int, k api.Key) api.Ask { return api.Ask{Method: 10, Object: n, Key: k} }
func keys(n int) api.Ask             { return api.Ask{Method: 11, Object: n} }
func define(n int, k api.Key, d api.Desc) api.Ask {
	return api.Ask{Method: 6, Object: n, Key: k, Desc: d}
}

func yes() api.Out  { return api.Out{Kind: 1, Bool: true} }
func no() api.Out   { return api.Out{Kind: 1} }
func full() api.Out { return api.Out{Kind: 3, Error: 2, Text: "too many"} }
