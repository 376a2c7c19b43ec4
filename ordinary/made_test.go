package ordinary_test

import (
	"fmt"
	"math"
	"slices"
	"strings"

	"bailiff/api"
	"bailiff/desc"
	"bailiff/heap"
	"bailiff/table"
)

var (
	nan       = math.NaN()
	minus     = math.Copysign(0, -1)
	undefined = api.Value{}
	null      = api.Value{Kind: api.Null}
)

func number(x float64) api.Value { return api.Value{Kind: api.Number, Num: x} }
func text(s string) api.Value    { return api.Value{Kind: api.String, Str: s} }
func thing(n int) api.Value      { return api.Value{Kind: api.Thing, Ref: n} }
func callable(n int) api.Value   { return api.Value{Kind: api.Func, Ref: n} }
func maker(n int) api.Value      { return api.Value{Kind: api.Maker, Ref: n} }

func long(n int) string            { return strings.Repeat("x", n) }
func of(s string) api.Key          { return api.Key{Str: s} }
func symbol(n int) api.Key         { return api.Key{Sym: n + 1} }
func numbered(n int) api.Key       { return of(fmt.Sprint("k", n)) }
func usual(x api.Value) api.Desc   { return data(x, true, true, true) }
func stuck(x api.Value) api.Desc   { return data(x, false, false, false) }
func both(g, s api.Value) api.Desc { return access(g, s, true, true) }

// data and access are complete descriptors, of the bits that the document tells.
func data(v api.Value, w, e, c bool) api.Desc {
	return api.Desc{Has: 51, Value: v, Writable: w, Enumerable: e, Configurable: c}
}

func access(g, s api.Value, e, c bool) api.Desc {
	return api.Desc{Has: 60, Get: g, Set: s, Enumerable: e, Configurable: c}
}

// only are the fields of a complete descriptor that stand in has.
func only(has uint8, d api.Desc) api.Desc {
	out := api.Desc{Has: has}
	if has&1 != 0 {
		out.Value = d.Value
	}
	if has&4 != 0 {
		out.Get = d.Get
	}
	if has&8 != 0 {
		out.Set = d.Set
	}
	out.Writable = has&2 != 0 && d.Writable
	out.Enumerable = has&16 != 0 && d.Enumerable
	out.Configurable = has&32 != 0 && d.Configurable
	return out
}

// props are properties of keys and descriptors, told one after the other.
func props(l ...any) []api.Prop {
	var out []api.Prop
	for i := 0; i < len(l); i += 2 {
		out = append(out, api.Prop{Key: l[i].(api.Key), Desc: l[i+1].(api.Desc)})
	}
	return out
}

// these are so many properties.
func these(n int) []api.Prop {
	var out []api.Prop
	for i := range n {
		out = append(out, props(numbered(i), usual(number(float64(i))))...)
	}
	return out
}

func heapOf(l ...api.Object) api.Heap { return api.Heap{Objects: l} }

func plain(proto api.Value, l ...any) api.Object {
	return api.Object{Kind: api.Plain, Proto: proto, Ext: true, Props: props(l...)}
}

func array(proto api.Value, length float64, l ...any) api.Object {
	size := props(of("length"), data(number(length), true, false, false))
	return api.Object{Kind: api.Array, Proto: proto, Ext: true, Props: append(size, props(l...)...)}
}

func boxed(proto api.Value, s string, l ...any) api.Object {
	return api.Object{Kind: api.Boxed, Proto: proto, Ext: true, Text: s, Props: props(l...)}
}

func function(proto api.Value, l ...any) api.Object {
	return api.Object{Kind: api.Function, Proto: proto, Ext: true, Calls: true, Makes: true, Props: props(l...)}
}

func native(proto api.Value, makes bool, target api.Value, l ...any) api.Object {
	return api.Object{Kind: api.Native, Proto: proto, Ext: true, Calls: true, Makes: makes, Target: target, Props: props(l...)}
}

// proxy can do what its target's value tells.
func proxy(target, handler api.Value) api.Object {
	return api.Object{Kind: api.Proxy, Proto: null, Target: target, Handler: handler, Calls: target.Kind >= api.Func, Makes: target.Kind == api.Maker}
}

func revoked(calls, makes bool) api.Object {
	return api.Object{Kind: api.Proxy, Proto: null, Target: null, Handler: null, Calls: calls, Makes: makes}
}

func closed(o api.Object) api.Object {
	o.Ext = false
	return o
}

// two is the chapter's heap H.
func two() api.Heap {
	return heapOf(plain(null, of("a"), usual(number(7))), plain(thing(0)))
}

// The objects of house by what they are.
const (
	aPlain = iota
	aFunction
	aFunc
	aMaker
	anArray
	aBoxed
	ofThing
	ofMaker
	ofFunc
	goneThing
	goneFunc
	goneMaker
	revoker
	aChild
	aClosed
	ofArray
	houseSize
)

// house has objects of all kinds, made anew each time.
func house() api.Heap {
	return heapOf(
		plain(null, of("a"), usual(number(7)), of("b"), stuck(text("b")), of("1"), usual(null)),
		function(thing(aPlain), of("a"), stuck(number(nan)), of("prototype"), data(thing(aClosed), true, false, false)),
		native(maker(aFunction), false, undefined, of("name"), usual(text("f"))),
		native(callable(aFunc), true, undefined),
		array(thing(aPlain), 2, of("0"), usual(thing(aBoxed)), of("1"), usual(callable(goneFunc)), of("a"), usual(number(nan))),
		boxed(thing(anArray), "ab", of("2"), usual(null), of("a"), usual(undefined)),
		proxy(thing(aPlain), thing(anArray)),
		proxy(maker(aFunction), thing(aPlain)),
		proxy(callable(aFunc), maker(aFunction)),
		revoked(false, false),
		revoked(true, false),
		revoked(true, true),
		native(callable(aFunc), false, thing(ofThing), of("a"), access(callable(aFunc), undefined, true, false)),
		plain(thing(ofThing), of("a"), both(callable(aFunc), maker(aMaker)), symbol(0), usual(maker(aFunction)), of("10"), both(undefined, undefined)),
		closed(plain(thing(aBoxed), of("a"), data(number(1), true, false, false), of("b"), usual(thing(aClosed)))),
		plain(thing(anArray), symbol(7), usual(undefined)),
	)
}

// plains are the numbers of house's objects that these methods can be asked of, others those of the others.
func plains() []int {
	return []int{aPlain, aFunction, aFunc, aMaker, revoker, aChild, aClosed, ofArray}
}

func others() []int {
	return []int{anArray, aBoxed, ofThing, ofMaker, ofFunc, goneThing, goneFunc, goneMaker}
}

// values are the values of house's objects, each of the Kind that tells what it can do.
func values() []api.Value {
	var out []api.Value
	for n, o := range house().Objects {
		k := api.Thing
		if o.Calls {
			k = api.Func
		}
		if o.Makes {
			k = api.Maker
		}
		out = append(out, api.Value{Kind: k, Ref: n})
	}
	return out
}

// many are plain objects of the Proto null, closed, without properties.
func many(n int) api.Heap {
	return api.Heap{Objects: slices.Repeat([]api.Object{{Kind: api.Plain, Proto: null}}, n)}
}

// refused are heaps that may not be.
func refused() []api.Heap {
	l := []api.Heap{many(api.MaxObjects + 1), heapOf(api.Object{}), heapOf(plain(thing(0))), heapOf(plain(undefined)), heapOf(plain(thing(1)), plain(thing(0))), heapOf(proxy(thing(0), thing(0))), heapOf(plain(null, of("a"), usual(number(0.5)))), heapOf(plain(null, of("a"), api.Desc{Has: 1})), heapOf(plain(thing(-1)))}
	for n := range houseSize {
		h := house()
		h.Objects[n].Kind = 0
		l = append(l, h)
	}
	return l
}

// The asks of the eight, of an object.
func getProto(n int) api.Ask { return api.Ask{Method: 1, Object: n} }
func setProto(n int, v api.Value) api.Ask {
	return api.Ask{Method: 2, Object: n, Value: v}
}
func extensible(n int) api.Ask       { return api.Ask{Method: 3, Object: n} }
func prevent(n int) api.Ask          { return api.Ask{Method: 4, Object: n} }
func get(n int, k api.Key) api.Ask   { return api.Ask{Method: 5, Object: n, Key: k} }
func erase(n int, k api.Key) api.Ask { return api.Ask{Method: 10, Object: n, Key: k} }
func keys(n int) api.Ask             { return api.Ask{Method: 11, Object: n} }
func define(n int, k api.Key, d api.Desc) api.Ask {
	return api.Ask{Method: 6, Object: n, Key: k, Desc: d}
}

func yes() api.Out  { return api.Out{Kind: 1, Bool: true} }
func no() api.Out   { return api.Out{Kind: 1} }
func full() api.Out { return api.Out{Kind: 3, Error: 2, Text: "too many"} }

// again is a second reading of Do: the chapter's words, one after the other.
func again(h api.Heap, a api.Ask) (api.Heap, api.Out, api.Errno) {
	if e := readAsk(h, a); e != api.OK {
		return api.Heap{}, api.Out{}, e
	}
	h = heap.Twin(h)
	o := &h.Objects[a.Object]
	at := slices.IndexFunc(o.Props, func(p api.Prop) bool { return p.Key == a.Key })
	out := api.Out{Kind: 1}
	switch a.Method {
	case 1:
		out.Value = o.Proto
	case 2:
		out.Bool = showValue(a.Value) == showValue(o.Proto)
		if !out.Bool && o.Ext && !slices.Contains(line(h, a.Value), a.Object) {
			out.Bool, o.Proto = true, a.Value
		}
	case 3:
		out.Bool = o.Ext
	case 4:
		out.Bool, o.Ext = true, false
	case 5:
		if at >= 0 {
			out.Found, out.Desc = true, o.Props[at].Desc
		}
	case 6:
		out = defined(o, at, a)
	case 10:
		out.Bool = at < 0 || o.Props[at].Desc.Configurable
		if at >= 0 && out.Bool {
			o.Props = append(slices.Clone(o.Props[:at]), o.Props[at+1:]...)
		}
	case 11:
		out.Keys, _ = table.Keys(o.Props)
	}
	return h, out, api.OK
}

// defined is what again tells of DefineOwnProperty.
func defined(o *api.Object, at int, a api.Ask) api.Out {
	var now api.Desc
	if at >= 0 {
		now = o.Props[at].Desc
	}
	d, may, _ := desc.Apply(o.Ext, a.Desc, at >= 0, now)
	switch {
	case !may:
		return no()
	case at >= 0:
		o.Props[at].Desc = d
	case len(o.Props) == 1024:
		return full()
	default:
		o.Props = append(slices.Clone(o.Props), api.Prop{Key: a.Key, Desc: d})
	}
	return yes()
}

// line are the numbers of the objects that stand behind a value, itself included.
func line(h api.Heap, v api.Value) []int {
	var out []int
	for v.Kind >= api.Thing {
		out = append(out, v.Ref)
		if v = h.Objects[v.Ref].Proto; h.Objects[out[len(out)-1]].Kind == api.Proxy {
			break
		}
	}
	return out
}

// readAsk is a second reading of which asks may be.
func readAsk(h api.Heap, a api.Ask) api.Errno {
	if heap.Check(h) != api.OK {
		return api.ErrHeap
	}
	if !strings.Contains("|1|2|3|4|5|6|10|11|", fmt.Sprintf("|%d|", a.Method)) || a.Object < 0 || a.Object >= len(h.Objects) {
		return api.ErrArg
	}
	if k := h.Objects[a.Object].Kind; k != 1 && k != 4 && k != 5 {
		return api.ErrArg
	}
	if m := a.Method; (m == 5 || m == 6 || m == 10) && !readKey(a.Key) {
		return api.ErrHeap
	}
	if a.Method == 6 {
		if desc.Check(a.Desc) != api.OK {
			return api.ErrDesc
		}
		for _, v := range []api.Value{a.Desc.Value, a.Desc.Get, a.Desc.Set} {
			if !readValue(h, v) {
				return api.ErrHeap
			}
		}
	}
	if a.Method == 2 && !(a.Value.Kind == 1 || a.Value.Kind >= 6) || a.Method == 2 && !readValue(h, a.Value) {
		return api.ErrHeap
	}
	return api.OK
}

func readKey(k api.Key) bool {
	return k.Sym == 0 && len(k.Str) <= 4096 || k.Sym > 0 && k.Str == ""
}

// readValue is a second reading of which values may be in a heap.
func readValue(h api.Heap, v api.Value) bool {
	zero := v.Num == 0 && !math.Signbit(v.Num)
	if v.Kind != api.String && v.Str != "" || v.Kind < api.Symbol && v.Ref != 0 || v.Ref < 0 || len(v.Str) > 4096 {
		return false
	}
	switch v.Kind {
	case api.Boolean:
		return v.Num == 0 || v.Num == 1
	case api.Number:
		return v.Num != v.Num || v.Num == math.Trunc(v.Num) && math.Abs(v.Num) <= 1<<53-1 && (v.Num != 0 || zero)
	case api.Undefined, api.Null, api.String, api.Symbol:
		return zero
	case api.Thing, api.Func, api.Maker:
		if !zero || v.Ref >= len(h.Objects) {
			return false
		}
		o := h.Objects[v.Ref]
		return o.Calls == (v.Kind != api.Thing) && o.Makes == (v.Kind == api.Maker)
	}
	return false
}

// show is all fields of a heap.
func show(h api.Heap) string {
	var out strings.Builder
	for _, o := range h.Objects {
		fmt.Fprintf(&out, "{%d %s %t %s %s %q %t %t", o.Kind, showValue(o.Proto), o.Ext, showValue(o.Target), showValue(o.Handler), o.Text, o.Calls, o.Makes)
		for _, p := range o.Props {
			fmt.Fprintf(&out, " [%q %d: %s]", p.Key.Str, p.Key.Sym, showDesc(p.Desc))
		}
		out.WriteString("}\n")
	}
	return out.String()
}

func showValue(v api.Value) string { return fmt.Sprintf("%d|%v|%q|%d", v.Kind, v.Num, v.Str, v.Ref) }

func showDesc(d api.Desc) string {
	return fmt.Sprintf("%d %s %s %s %t %t %t", d.Has, showValue(d.Value), showValue(d.Get), showValue(d.Set), d.Writable, d.Enumerable, d.Configurable)
}

// showOut is all fields of an outcome; a list without keys is one, nil or not.
func showOut(o api.Out) string {
	return fmt.Sprintf("%d %s %t %t %s %q %d %q", o.Kind, showValue(o.Value), o.Bool, o.Found, showDesc(o.Desc), fmt.Sprint(o.Keys), o.Error, o.Text)
}

// showAsk is all fields of an ask.
func showAsk(a api.Ask) string {
	s := fmt.Sprintf("method %d of %d, %q %d, %s, %s, %s, %v", a.Method, a.Object, a.Key.Str, a.Key.Sym, showDesc(a.Desc), showValue(a.Value), showValue(a.Receiver), a.Args)
	return s[:min(len(s), 500)]
}

// brief is show of what is short.
func brief(h api.Heap) string {
	s := show(h)
	if len(s) > 3000 {
		return fmt.Sprint(s[:3000], " .. ", len(h.Objects), " objects")
	}
	return s
}
