package heap_test

import (
	"fmt"
	"math"
	"slices"
	"strings"

	"bailiff/api"
	"bailiff/table"
	"bailiff/value"
)

var (
	nan       = math.NaN()
	minus     = math.Copysign(0, -1)
	undefined = api.Value{}
	null      = api.Value{Kind: api.Null}
)

func number(x float64) api.Value { return api.Value{Kind: api.Number, Num: x} }
func text(s string) api.Value    { return api.Value{Kind: api.String, Str: s} }
func thing(n int) api.Value      { return api.Value{Kind: api.Thing, Ref: n} }
func callable(n int) api.Value   { return api.Value{Kind: api.Func, Ref: n} }
func maker(n int) api.Value      { return api.Value{Kind: api.Maker, Ref: n} }

func long(n int) string       { return strings.Repeat("x", n) }
func of(s string) api.Key     { return api.Key{Str: s} }
func symbol(n int) api.Key    { return api.Key{Sym: n + 1} }
func numbered(n int) api.Key  { return of(fmt.Sprint("k", n)) }
func index(n int) api.Key     { return of(fmt.Sprint(n)) }
func usual(x api.Value) any   { return data(x, true, true, true) }
func hidden(x float64) any    { return data(number(x), true, false, false) }
func stuck(x float64) any     { return data(number(x), false, false, false) }
func both(g, s api.Value) any { return access(g, s, true, true) }

// data and access are complete descriptors, of the bits that the document tells.
func data(v api.Value, w, e, c bool) api.Desc {
	return api.Desc{Has: 51, Value: v, Writable: w, Enumerable: e, Configurable: c}
}

func access(g, s api.Value, e, c bool) api.Desc {
	return api.Desc{Has: 60, Get: g, Set: s, Enumerable: e, Configurable: c}
}

// props are properties of keys and descriptors, told one after the other.
func props(l ...any) []api.Prop {
	var out []api.Prop
	for i := 0; i < len(l); i += 2 {
		out = append(out, api.Prop{Key: l[i].(api.Key), Desc: l[i+1].(api.Desc)})
	}
	return out
}

// these are so many properties.
func these(n int) []api.Prop {
	var out []api.Prop
	for i := range n {
		out = append(out, props(numbered(i), usual(number(float64(i))))...)
	}
	return out
}

func heapOf(l ...api.Object) api.Heap { return api.Heap{Objects: l} }

func plain(proto api.Value, l ...any) api.Object {
	return api.Object{Kind: api.Plain, Proto: proto, Ext: true, Props: props(l...)}
}

func array(proto api.Value, length float64, l ...any) api.Object {
	return api.Object{Kind: api.Array, Proto: proto, Ext: true, Props: append(props(of("length"), hidden(length)), props(l...)...)}
}

func boxed(proto api.Value, s string, l ...any) api.Object {
	return api.Object{Kind: api.Boxed, Proto: proto, Ext: true, Text: s, Props: props(l...)}
}

func function(proto api.Value, l ...any) api.Object {
	return api.Object{Kind: api.Function, Proto: proto, Ext: true, Calls: true, Makes: true, Props: props(l...)}
}

func native(proto api.Value, makes bool, target api.Value, l ...any) api.Object {
	return api.Object{Kind: api.Native, Proto: proto, Ext: true, Calls: true, Makes: makes, Target: target, Props: props(l...)}
}

// proxy can do what its target's value tells.
func proxy(target, handler api.Value) api.Object {
	return api.Object{Kind: api.Proxy, Proto: null, Target: target, Handler: handler, Calls: target.Kind >= api.Func, Makes: target.Kind == api.Maker}
}

func revoked(calls, makes bool) api.Object {
	return api.Object{Kind: api.Proxy, Proto: null, Target: null, Handler: null, Calls: calls, Makes: makes}
}

// two is the chapter's heap H.
func two() api.Heap {
	return heapOf(plain(null, of("a"), usual(number(7))), plain(thing(0)))
}

// The objects of house by what they are.
const (
	aPlain = iota
	aFunction
	aFunc
	aMaker
	anArray
	aBoxed
	ofThing
	ofMaker
	ofFunc
	goneThing
	goneFunc
	goneMaker
	revoker
	lateRevoker
	ofProxies
	aChild
	houseSize
)

// house has objects of all kinds, made anew each time.
func house() api.Heap {
	h := heapOf(
		plain(null, of("a"), usual(number(7))),
		function(thing(aPlain), of("length"), stuck(2), of("prototype"), hidden(1)),
		native(thing(aPlain), false, undefined, of("name"), usual(text("f"))),
		native(callable(aFunc), true, undefined),
		array(thing(aPlain), 2, of("0"), usual(thing(aBoxed)), of("1"), usual(callable(goneFunc)), of("x"), usual(number(nan))),
		boxed(thing(anArray), "ab", of("2"), usual(null), of("a"), usual(undefined)),
		proxy(thing(aPlain), thing(anArray)),
		proxy(maker(aFunction), thing(aPlain)),
		proxy(callable(aFunc), maker(aFunction)),
		revoked(false, false),
		revoked(true, false),
		revoked(true, true),
		native(callable(aFunc), false, thing(ofThing)),
		native(thing(aPlain), true, maker(goneMaker)),
		proxy(thing(ofThing), maker(ofMaker)),
		plain(thing(ofThing), of("g"), both(callable(aFunc), maker(aMaker)), symbol(0), usual(maker(aFunction)), of("h"), both(undefined, undefined)),
	)
	h.Objects[aChild].Ext = false
	return h
}

// twin is a second reading of Twin.
func twin(h api.Heap) api.Heap {
	var out []api.Object
	for _, o := range h.Objects {
		o.Props = slices.Clone(o.Props)
		out = append(out, o)
	}
	return heapOf(out...)
}

// many are plain objects of the Proto null, closed, without properties.
func many(n int) api.Heap {
	return api.Heap{Objects: slices.Repeat([]api.Object{{Kind: api.Plain, Proto: null}}, n)}
}

// wellValue is a second reading of which values may be in a heap.
func wellValue(h api.Heap, v api.Value) bool {
	if !value.May(v) {
		return false
	}
	if v.Kind < api.Thing {
		return true
	}
	if v.Ref >= len(h.Objects) {
		return false
	}
	o := h.Objects[v.Ref]
	can := [3][2]bool{{false, false}, {true, false}, {true, true}}[v.Kind-api.Thing]
	return can == [2]bool{o.Calls, o.Makes}
}

// well is a second reading of which heaps may be: the chapter's words, one after the other.
func well(h api.Heap) bool {
	if len(h.Objects) > 4096 {
		return false
	}
	for n, o := range h.Objects {
		if o.Proto.Kind != api.Null && o.Proto.Kind < api.Thing || table.Check(o.Props) != api.OK {
			return false
		}
		all := []api.Value{o.Proto, o.Target, o.Handler}
		for _, p := range o.Props {
			all = append(all, p.Desc.Value, p.Desc.Get, p.Desc.Set)
		}
		for _, v := range all {
			if !wellValue(h, v) {
				return false
			}
		}
		if !wellKind(h, n) {
			return false
		}
	}
	for n := range h.Objects {
		at := h.Objects[n].Proto
		for steps := 0; at.Kind != api.Null; steps++ {
			if at.Ref == n || steps > len(h.Objects) {
				return false
			}
			at = h.Objects[at.Ref].Proto
		}
	}
	return true
}

// wellKind is a row of the chapter's table. All values of the object may be in the heap.
func wellKind(h api.Heap, n int) bool {
	o := h.Objects[n]
	said := map[string]bool{"target": o.Target.Kind != api.Undefined, "handler": o.Handler.Kind != api.Undefined, "text": o.Text != ""}
	only := func(words string) bool {
		for w, is := range said {
			if is && !strings.Contains(words, w) {
				return false
			}
		}
		return true
	}
	switch o.Kind {
	case api.Plain:
		return !o.Calls && !o.Makes && only("")
	case api.Array:
		if o.Calls || o.Makes || !only("") || len(o.Props) == 0 || o.Props[0].Key != of("length") {
			return false
		}
		d := o.Props[0].Desc
		if d.Has != 51 || d.Enumerable || d.Configurable || d.Value.Kind != api.Number || math.IsNaN(d.Value.Num) || d.Value.Num < 0 || d.Value.Num > 1024 {
			return false
		}
		return indicesFrom(o, int(d.Value.Num)) == 0
	case api.Boxed:
		_, is, _ := table.Find(o.Props, of("length"))
		return !o.Calls && !o.Makes && only("text") && len(o.Text) <= 4096 && !is && indicesFrom(o, 0) == indicesFrom(o, len(o.Text))
	case api.Function:
		return o.Calls && o.Makes && only("")
	case api.Native:
		return o.Calls && only("target") && (!said["target"] || o.Target.Kind >= api.Thing && o.Target.Ref < n && h.Objects[o.Target.Ref].Kind == api.Proxy)
	case api.Proxy:
		if o.Ext || len(o.Props) != 0 || o.Proto.Kind != api.Null || !only("target handler") {
			return false
		}
		if o.Target.Kind == api.Null {
			return o.Handler.Kind == api.Null && (o.Calls || !o.Makes)
		}
		if o.Target.Kind < api.Thing || o.Handler.Kind < api.Thing || o.Target.Ref >= n || o.Handler.Ref >= n {
			return false
		}
		t := h.Objects[o.Target.Ref]
		return o.Calls == t.Calls && o.Makes == t.Makes
	}
	return false
}

// texts are the texts of all indices, and what each is worth.
var texts = func() map[string]int {
	m := map[string]int{}
	for i := range 1024 {
		m[fmt.Sprint(i)] = i
	}
	return m
}()

// indicesFrom is how many of an object's properties have an index, from i on, as their key.
func indicesFrom(o api.Object, i int) int {
	count := 0
	for _, p := range o.Props {
		if n, is := texts[p.Key.Str]; is && p.Key.Sym == 0 && n >= i {
			count++
		}
	}
	return count
}

// equal is a second reading of Same, but that a minus nought is not like 0.
func equal(a, b api.Heap) bool { return show(a) == show(b) }

// show is all fields of a heap.
func show(h api.Heap) string {
	var out strings.Builder
	for _, o := range h.Objects {
		fmt.Fprintf(&out, "{%d %s %t %s %s %q %t %t", o.Kind, showValue(o.Proto), o.Ext, showValue(o.Target), showValue(o.Handler), o.Text, o.Calls, o.Makes)
		for _, p := range o.Props {
			d := p.Desc
			fmt.Fprintf(&out, " [%q %d: %d %s %s %s %t %t %t]", p.Key.Str, p.Key.Sym, d.Has, showValue(d.Value), showValue(d.Get), showValue(d.Set), d.Writable, d.Enumerable, d.Configurable)
		}
		out.WriteString("}\n")
	}
	return out.String()
}

func showValue(v api.Value) string { return fmt.Sprintf("%d|%v|%q|%d", v.Kind, v.Num, v.Str, v.Ref) }

// brief is show of what is short.
func brief(h api.Heap) string {
	s := show(h)
	if len(s) > 3000 {
		return fmt.Sprint(s[:3000], " .. ", len(h.Objects), " objects")
	}
	return s
}
