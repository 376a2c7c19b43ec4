package ordinary_test

import (
	"math"
	"slices"
	"testing"

	"bailiff/api"
	"bailiff/heap"
	"bailiff/ordinary"
)

// P12.1

func TestExamplesOfDo(t *testing.T) {
	h, a, b := two(), of("a"), of("b")
	holdDo(t, h, get(0, a), h, api.Out{Kind: 1, Found: true, Desc: usual(number(7))}, api.OK)
	holdDo(t, h, get(1, a), h, no(), api.OK)
	holdDo(t, h, setProto(0, thing(1)), h, no(), api.OK)
	holdDo(t, h, setProto(1, null), heapOf(h.Objects[0], plain(null)), yes(), api.OK)

	shut := heapOf(h.Objects[0], closed(plain(thing(0))))
	holdDo(t, h, prevent(1), shut, yes(), api.OK)
	holdDo(t, shut, define(1, b, usual(number(1))), shut, no(), api.OK)
	holdDo(t, shut, define(1, b, api.Desc{}), shut, no(), api.OK)

	fixed := heapOf(plain(null, a, data(number(7), true, true, false)), h.Objects[1])
	holdDo(t, h, define(0, a, api.Desc{Has: 32}), fixed, yes(), api.OK)
	holdDo(t, fixed, erase(0, a), fixed, no(), api.OK)

	refuse(t, h, api.Ask{Method: api.Get, Object: 0, Key: a, Receiver: thing(0)}, api.ErrArg)
	refuse(t, h, keys(7), api.ErrArg)
	refuse(t, h, define(0, a, api.Desc{Has: 5}), api.ErrDesc)
}

func holdDo(t *testing.T, h api.Heap, a api.Ask, want api.Heap, out api.Out, e api.Errno) {
	t.Helper()
	got, o, g := ordinary.Do(h, a)
	if !heap.Same(got, want) || showOut(o) != showOut(out) || g != e {
		t.Errorf("Do\n%s%s:\n%s%s, %d\nwant\n%s%s, %d", brief(h), showAsk(a), brief(got), showOut(o), int(g), brief(want), showOut(out), int(e))
	}
}

func refuse(t *testing.T, h api.Heap, a api.Ask, e api.Errno) {
	t.Helper()
	holdDo(t, h, a, api.Heap{}, api.Out{}, e)
}

// hold holds Do against its second reading.
func hold(t *testing.T, h api.Heap, a api.Ask) (api.Heap, api.Out, api.Errno) {
	t.Helper()
	after, out, e := again(h, a)
	holdDo(t, h, a, after, out, e)
	return after, out, e
}

func TestProtoOf(t *testing.T) {
	h := house()
	for _, n := range plains() {
		holdDo(t, h, getProto(n), h, api.Out{Kind: 1, Value: h.Objects[n].Proto}, api.OK)
	}
}

// Each object of house, and null, as each one's prototype, whether it takes a new one or not.
func TestSetProtoOfHouse(t *testing.T) {
	count := map[bool]int{}
	for _, n := range plains() {
		for _, v := range append(values(), null) {
			for _, open := range []bool{true, false} {
				h := house()
				h.Objects[n].Ext = open
				_, out, _ := hold(t, h, setProto(n, v))
				count[out.Bool]++
			}
		}
	}
	if count[true] < 50 || count[false] < 100 {
		t.Error(count)
	}
}

func TestSetProtoRows(t *testing.T) {
	for i, c := range []struct {
		n    int
		v    api.Value
		yes  bool
		sets bool
	}{
		{aClosed, thing(aBoxed), true, false}, // what it has, though closed
		{aClosed, null, false, false},
		{aPlain, null, true, false},
		{aPlain, thing(aPlain), false, false},
		{aPlain, maker(aFunction), false, false},
		{aPlain, maker(aMaker), false, false},
		{aPlain, thing(aClosed), false, false}, // through what is no plain object
		{aPlain, thing(aChild), true, true},    // a proxy of it stands between, and has no Proto
		{aPlain, thing(ofThing), true, true},
		{aFunction, maker(ofMaker), true, true},
		{aMaker, null, true, true},
		{aMaker, callable(aFunc), true, false},
		{aFunc, maker(aMaker), false, false},
		{aFunc, thing(ofArray), true, true},
		{aChild, thing(ofThing), true, false},
	} {
		h, want, out := house(), house(), no()
		if c.yes {
			out = yes()
		}
		if c.sets {
			want.Objects[c.n].Proto = c.v
		}
		got, o, e := ordinary.Do(h, setProto(c.n, c.v))
		if !heap.Same(got, want) || showOut(o) != showOut(out) || e != api.OK {
			t.Error("row", i, showOut(o), int(e), brief(got))
		}
	}
}

// A line of prototypes as long as there may be.
func TestSetProtoOfALongLine(t *testing.T) {
	h := many(api.MaxObjects)
	for n := range h.Objects {
		h.Objects[n].Ext = true
		if n > 0 {
			h.Objects[n].Proto = thing(n - 1)
		}
	}
	last := api.MaxObjects - 1
	holdDo(t, h, setProto(0, thing(last)), h, no(), api.OK)
	holdDo(t, h, setProto(1, thing(last)), h, no(), api.OK)
	holdDo(t, h, setProto(last, thing(last)), h, no(), api.OK)
	want := heap.Twin(h)
	want.Objects[last].Proto = thing(0)
	holdDo(t, h, setProto(last, thing(0)), want, yes(), api.OK)
	refuse(t, h, setProto(last, thing(api.MaxObjects)), api.ErrHeap)
	holdLoops(t, h, 0, thing(last), true, api.OK)
	holdLoops(t, h, last, thing(last-1), false, api.OK)
}

func TestExtensible(t *testing.T) {
	for _, n := range plains() {
		for _, open := range []bool{true, false} {
			h, shut := house(), house()
			h.Objects[n].Ext, shut.Objects[n].Ext = open, false
			out := no()
			if open {
				out = yes()
			}
			holdDo(t, h, extensible(n), h, out, api.OK)
			holdDo(t, h, prevent(n), shut, yes(), api.OK)
			holdDo(t, shut, prevent(n), shut, yes(), api.OK)
			holdDo(t, shut, extensible(n), shut, no(), api.OK)
		}
	}
}

// someKeys are keys that objects of house have, keys that none has, and such as may not be.
func someKeys() []api.Key {
	return []api.Key{of("a"), of("b"), of("1"), of("10"), of("prototype"), of("length"), of("name"), of(""), of("z"), of("01"), of("0"), symbol(0), symbol(7), symbol(1), symbol(math.MaxInt - 1), of(long(4096)), of(long(4097)), {Sym: -1}, {Str: "a", Sym: 1}, {Str: "a", Sym: -1}, {Sym: math.MinInt}}
}

func TestGetDeleteAndDefineOfHouse(t *testing.T) {
	found, gone := 0, 0
	for _, n := range plains() {
		for _, k := range someKeys() {
			h := house()
			_, out, _ := hold(t, h, get(n, k))
			if out.Found {
				found++
			}
			after, out, e := hold(t, h, erase(n, k))
			if out.Bool && !heap.Same(after, h) {
				gone++
				hold(t, after, get(n, k))
				hold(t, after, keys(n))
			}
			if e != api.OK && readKey(k) || e == api.OK && !readKey(k) {
				t.Error(n, k, int(e))
			}
			for _, d := range []api.Desc{{}, {Has: 1}, {Has: 16}, {Has: 32, Configurable: true}, {Has: 4}, usual(number(7)), stuck(text("b")), only(2, usual(undefined)), both(callable(aFunc), undefined)} {
				after, _, _ := hold(t, h, define(n, k, d))
				if len(after.Objects) > 0 {
					hold(t, after, get(n, k))
					hold(t, after, keys(n))
				}
			}
		}
	}
	if found < 10 || gone < 5 {
		t.Error(found, gone)
	}
}

func TestDeleteRows(t *testing.T) {
	h := heapOf(plain(null, of("a"), usual(number(1)), of("b"), stuck(number(2)), of("c"), both(undefined, undefined), of("d"), access(undefined, undefined, true, false), of("e"), data(number(3), false, false, true)))
	without := func(keys ...string) api.Heap {
		out := heap.Twin(h)
		out.Objects[0].Props = slices.DeleteFunc(out.Objects[0].Props, func(p api.Prop) bool { return slices.Contains(keys, p.Key.Str) })
		return out
	}
	holdDo(t, h, erase(0, of("a")), without("a"), yes(), api.OK)
	holdDo(t, h, erase(0, of("b")), h, no(), api.OK)
	holdDo(t, h, erase(0, of("c")), without("c"), yes(), api.OK)
	holdDo(t, h, erase(0, of("d")), h, no(), api.OK)
	holdDo(t, h, erase(0, of("e")), without("e"), yes(), api.OK)
	holdDo(t, h, erase(0, of("f")), h, yes(), api.OK)
	holdDo(t, without("a"), erase(0, of("a")), without("a"), yes(), api.OK)
	shut := heapOf(closed(h.Objects[0]))
	want := heapOf(closed(without("c").Objects[0]))
	holdDo(t, shut, erase(0, of("c")), want, yes(), api.OK)
}

// parts are all descriptors that have some fields of some complete ones, each once.
func parts() []api.Desc {
	var out []api.Desc
	seen := map[string]bool{}
	for _, d := range states() {
		for has := range uint8(64) {
			if has&^d.Has != 0 {
				continue
			}
			if p := only(has, d); !seen[showDesc(p)] {
				seen[showDesc(p)] = true
				out = append(out, p)
			}
		}
	}
	return out
}

// states are what a property may be, the values and functions being of stage.
func states() []api.Desc {
	var out []api.Desc
	for i := range 8 {
		e, c, w := i&1 != 0, i&2 != 0, i&4 != 0
		for _, v := range []api.Value{number(1), number(nan), maker(0)} {
			out = append(out, data(v, w, e, c))
		}
		s := undefined
		if w {
			s = maker(0)
		}
		out = append(out, access(undefined, s, e, c), access(maker(0), s, e, c))
	}
	return out
}

// stage is a heap in which the object 1 has the property a, or has it not (found), between two others.
func stage(open, found bool, now api.Desc) api.Heap {
	o := plain(maker(0), of("z"), usual(number(8)))
	if found {
		o.Props = append(o.Props, props(of("a"), now)...)
	}
	o.Props = append(o.Props, props(of("1"), stuck(null))...)
	o.Ext = open
	return heapOf(function(null), o)
}

// Each descriptor, held against each property, and where there is none, whether the object takes new ones or not.
func TestDefineOfAll(t *testing.T) {
	count := map[bool]int{}
	l := parts()
	for _, open := range []bool{true, false} {
		for _, d := range l {
			for _, now := range states() {
				_, out, _ := hold(t, stage(open, true, now), define(1, of("a"), d))
				count[out.Bool]++
			}
			after, out, _ := hold(t, stage(open, false, api.Desc{}), define(1, of("a"), d))
			if out.Bool != open || out.Bool && after.Objects[1].Props[2].Key != of("a") {
				t.Error(open, showDesc(d), brief(after))
			}
		}
	}
	if len(l) < 150 || count[true] < 2000 || count[false] < 2000 {
		t.Error(len(l), count)
	}
}

func TestDefineRows(t *testing.T) {
	row := func(d, now, want api.Desc, may bool) {
		t.Helper()
		h := stage(true, true, now)
		if may {
			holdDo(t, h, define(1, of("a"), d), stage(true, true, want), yes(), api.OK)
		} else {
			holdDo(t, h, define(1, of("a"), d), h, no(), api.OK)
		}
	}
	value := api.Desc{Has: 1, Value: number(2)}
	row(value, usual(number(1)), usual(number(2)), true)
	row(value, data(number(1), true, false, false), data(number(2), true, false, false), true)
	row(value, stuck(number(1)), api.Desc{}, false)
	row(value, stuck(number(2)), stuck(number(2)), true)
	row(value, both(undefined, undefined), data(number(2), false, true, true), true)
	row(value, access(undefined, undefined, true, false), api.Desc{}, false)
	row(api.Desc{Has: 4, Get: maker(0)}, usual(number(1)), both(maker(0), undefined), true)
	row(api.Desc{Has: 4, Get: maker(0)}, access(maker(0), maker(0), false, false), access(maker(0), maker(0), false, false), true)
	row(api.Desc{Has: 8, Set: maker(0)}, access(maker(0), undefined, false, false), api.Desc{}, false)
	row(api.Desc{Has: 2, Writable: true}, stuck(number(1)), api.Desc{}, false)
	row(api.Desc{Has: 2}, data(number(1), true, true, false), data(number(1), false, true, false), true)
	row(api.Desc{Has: 16, Enumerable: true}, stuck(number(1)), api.Desc{}, false)
	row(api.Desc{Has: 32, Configurable: true}, stuck(number(1)), api.Desc{}, false)
	row(api.Desc{Has: 48}, usual(number(1)), data(number(1), true, false, false), true)
	row(api.Desc{}, stuck(number(nan)), stuck(number(nan)), true)
	row(api.Desc{Has: 1, Value: number(nan)}, stuck(number(nan)), stuck(number(nan)), true)

	h := stage(true, false, api.Desc{})
	for _, c := range []struct{ d, want api.Desc }{
		{api.Desc{}, stuck(undefined)},
		{value, stuck(number(2))},
		{api.Desc{Has: 8, Set: maker(0)}, access(undefined, maker(0), false, false)},
		{usual(thing(1)), usual(thing(1))},
	} {
		want := heap.Twin(h)
		want.Objects[1].Props = append(want.Objects[1].Props, props(of("a"), c.want)...)
		holdDo(t, h, define(1, of("a"), c.d), want, yes(), api.OK)
	}
}

// An object with all the properties for which there is room takes no new one; what it has may become another, and one that goes makes room.
func TestDefineWhereThereIsNoRoom(t *testing.T) {
	k := of("new")
	one := usual(number(1))
	for _, o := range []api.Object{plain(null), function(null), native(null, false, undefined)} {
		o.Props = these(api.MaxProps)
		h := heapOf(o)
		holdDo(t, h, define(0, k, one), h, full(), api.OK)
		holdDo(t, h, define(0, k, api.Desc{}), h, full(), api.OK)
		holdDo(t, h, define(0, symbol(3), one), h, full(), api.OK)
		hold(t, h, define(0, numbered(7), stuck(number(3))))
		hold(t, h, define(0, numbered(api.MaxProps-1), stuck(number(3))))
		refuse(t, h, define(0, k, api.Desc{Has: 128}), api.ErrDesc)
		refuse(t, h, define(0, k, usual(thing(1))), api.ErrHeap)
		shut := heapOf(closed(o))
		holdDo(t, shut, define(0, k, one), shut, no(), api.OK)
		after, out, _ := hold(t, h, erase(0, numbered(500)))
		if !out.Bool || len(after.Objects[0].Props) != api.MaxProps-1 {
			t.Error(showOut(out))
		}
		after, out, _ = hold(t, after, define(0, k, one))
		if !out.Bool || after.Objects[0].Props[api.MaxProps-1].Key != k {
			t.Error(showOut(out))
		}
		holdDo(t, after, define(0, of("newer"), one), after, full(), api.OK)
	}
	o := plain(null)
	o.Props = these(api.MaxProps)
	l := heapOf(o, plain(null), plain(null))
	hold(t, l, define(1, k, one)) // the room is each object's own
	o.Props = these(api.MaxProps + 1)
	refuse(t, heapOf(o), define(0, k, one), api.ErrHeap)
}

func TestOwnKeys(t *testing.T) {
	o := plain(null)
	for _, k := range []api.Key{symbol(4), of("b"), of("1023"), symbol(1), of("2"), of("01"), of("1024"), of("10"), of(""), of("a"), symbol(0)} {
		o.Props = append(o.Props, props(k, stuck(null))...)
	}
	want := []api.Key{of("2"), of("10"), of("1023"), of("b"), of("01"), of("1024"), of(""), of("a"), symbol(4), symbol(1), symbol(0)}
	h := heapOf(o)
	holdDo(t, h, keys(0), h, api.Out{Kind: 1, Keys: want}, api.OK)
	for _, n := range plains() {
		hold(t, house(), keys(n))
	}
	h = house()
	holdDo(t, h, keys(aMaker), h, api.Out{Kind: 1}, api.OK)
	holdDo(t, h, keys(aPlain), h, api.Out{Kind: 1, Keys: []api.Key{of("1"), of("a"), of("b")}}, api.OK)
}
