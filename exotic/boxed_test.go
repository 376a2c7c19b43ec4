package exotic_test

import (
	"testing"

	"bailiff/api"
)

// P13.3

func TestExamplesOfStrings(t *testing.T) {
	h := heapOf(boxed(null, "ab"))
	holdBox(t, api.Heap{}, "ab", null, h, 0, api.OK)
	holdDo(t, h, get(0, element(1)), h, api.Out{Kind: 1, Found: true, Desc: data(text("b"), false, true, false)}, api.OK)
	holdDo(t, h, get(0, length), h, api.Out{Kind: 1, Found: true, Desc: stuck(number(2))}, api.OK)
	holdDo(t, h, keys(0), h, api.Out{Kind: 1, Keys: []api.Key{element(0), element(1), length}}, api.OK)
	holdDo(t, h, erase(0, element(0)), h, no(), api.OK)
}

func TestStringsRows(t *testing.T) {
	h := house()
	byteOf := func(s string) api.Out { return api.Out{Kind: 1, Found: true, Desc: data(text(s), false, true, false)} }
	size := func(n float64) api.Out { return api.Out{Kind: 1, Found: true, Desc: stuck(number(n))} }
	for _, c := range []struct {
		n    int
		k    api.Key
		want api.Out
	}{
		{aBoxed, element(0), byteOf("a")},
		{aBoxed, element(1), byteOf("b")},
		{aBoxed, element(2), api.Out{Kind: 1, Found: true, Desc: stuck(thing(anArray))}},
		{aBoxed, element(3), no()},
		{aBoxed, of("01"), api.Out{Kind: 1, Found: true, Desc: usual(number(1))}},
		{aBoxed, of("00"), no()},
		{aBoxed, of(""), no()},
		{aBoxed, symbol(0), no()},
		{aBoxed, length, size(2)},
		{anEmptyBox, element(0), api.Out{Kind: 1, Found: true, Desc: usual(text("0"))}},
		{anEmptyBox, element(1), no()},
		{anEmptyBox, length, size(0)},
		{aShutBox, element(1), byteOf("\xff")},
		{aBoxOfProxy, element(0), byteOf("\x00")},
		{aBoxOfProxy, element(1), no()},
		{aLongBox, element(1023), byteOf("x")},
		{aLongBox, of("1024"), api.Out{Kind: 1, Found: true, Desc: usual(number(4))}}, // a byte, but no index
		{aLongBox, of("1025"), no()},
		{aLongBox, length, size(1030)},
	} {
		holdDo(t, h, get(c.n, c.k), h, c.want, api.OK)
		if c.want.Found && !c.want.Desc.Configurable {
			holdDo(t, h, erase(c.n, c.k), h, no(), api.OK)
		}
		hold(t, h, erase(c.n, c.k))
	}
	for _, n := range boxes() {
		for _, k := range []api.Key{{Str: "0", Sym: -1}, {Str: "0", Sym: 1}, {Str: "length", Sym: 1}, {Str: "length", Sym: -1}, of(long(4097))} {
			refuse(t, h, get(n, k), api.ErrHeap)
			refuse(t, h, erase(n, k), api.ErrHeap)
			refuse(t, h, define(n, k, api.Desc{}), api.ErrHeap)
		}
	}
}

func TestEachByteOfAString(t *testing.T) {
	var all []byte
	for i := range 256 {
		all = append(all, byte(i))
	}
	h := heapOf(boxed(null, string(all)))
	for i := range 256 {
		holdDo(t, h, get(0, element(i)), h, api.Out{Kind: 1, Found: true, Desc: data(text(string(all[i:i+1])), false, true, false)}, api.OK)
	}
	holdDo(t, h, get(0, element(256)), h, no(), api.OK)
}

func TestDefineOwnBytes(t *testing.T) {
	h := house()
	for _, c := range []struct {
		n   int
		k   api.Key
		d   api.Desc
		yes bool
	}{
		{aBoxed, element(0), api.Desc{}, true},
		{aBoxed, element(0), api.Desc{Has: 1, Value: text("a")}, true},
		{aBoxed, element(0), api.Desc{Has: 1, Value: text("b")}, false},
		{aBoxed, element(1), api.Desc{Has: 1, Value: text("b")}, true},
		{aBoxed, element(0), data(text("a"), false, true, false), true},
		{aBoxed, element(0), usual(text("a")), false},
		{aBoxed, element(0), api.Desc{Has: 2}, true},
		{aBoxed, element(0), api.Desc{Has: 2, Writable: true}, false},
		{aBoxed, element(0), api.Desc{Has: 16}, false},
		{aBoxed, element(0), api.Desc{Has: 16, Enumerable: true}, true},
		{aBoxed, element(0), api.Desc{Has: 32}, true},
		{aBoxed, element(0), api.Desc{Has: 32, Configurable: true}, false},
		{aBoxed, element(0), api.Desc{Has: 4}, false},
		{aBoxed, length, api.Desc{}, true},
		{aBoxed, length, api.Desc{Has: 1, Value: number(2)}, true},
		{aBoxed, length, api.Desc{Has: 1, Value: number(1)}, false},
		{aBoxed, length, api.Desc{Has: 1, Value: number(2000)}, false}, // it is no array's
		{aBoxed, length, api.Desc{Has: 1, Value: text("2")}, false},
		{aBoxed, length, api.Desc{Has: 2, Writable: true}, false},
		{aBoxed, length, api.Desc{Has: 16, Enumerable: true}, false},
		{aBoxed, length, stuck(number(2)), true},
		{aShutBox, element(0), api.Desc{Has: 1, Value: text("x")}, true},
		{aShutBox, length, api.Desc{Has: 1, Value: number(2)}, true},
		{aShutBox, length, api.Desc{Has: 8}, false},
		{aLongBox, element(1023), api.Desc{Has: 1, Value: text("x")}, true},
		{aLongBox, length, stuck(number(1030)), true},
	} {
		holdDo(t, h, define(c.n, c.k, c.d), h, api.Out{Kind: 1, Bool: c.yes}, api.OK)
	}
	refuse(t, h, define(aBoxed, element(0), api.Desc{Has: 1, Value: thing(houseSize)}), api.ErrHeap)
	refuse(t, h, define(aBoxed, length, api.Desc{Has: 1, Value: thing(houseSize)}), api.ErrHeap)
	refuse(t, h, define(aBoxed, length, api.Desc{Has: 5}), api.ErrDesc)
	refuse(t, h, define(aBoxed, element(1), api.Desc{Has: 64}), api.ErrDesc)
}

// What is not its own is done as of a plain one.
func TestDefineOthersOfStrings(t *testing.T) {
	h := house()
	for _, k := range []api.Key{element(5), of("q"), symbol(9)} {
		want := house()
		want.Objects[aBoxed].Props = append(want.Objects[aBoxed].Props, props(k, stuck(number(1)))...)
		holdDo(t, h, define(aBoxed, k, value(1)), want, yes(), api.OK)
		holdDo(t, h, define(aShutBox, k, value(1)), h, no(), api.OK)
	}
	holdDo(t, h, define(aBoxed, element(2), value(1)), h, no(), api.OK)
	want := house()
	want.Objects[aLongBox].Props[0].Desc.Value = number(1)
	holdDo(t, h, define(aLongBox, of("1024"), value(1)), want, yes(), api.OK)
	want = house()
	want.Objects[aLongBox].Props = want.Objects[aLongBox].Props[1:]
	holdDo(t, h, erase(aLongBox, of("1024")), want, yes(), api.OK)
	want = house()
	want.Objects[aBoxed].Ext = false
	holdDo(t, h, prevent(aBoxed), want, yes(), api.OK)
}

// A string object has room for as many properties as any other, beside its own bytes.
func TestAStringWithoutRoom(t *testing.T) {
	o := boxed(null, "abc")
	o.Props = these(api.MaxProps)
	h := heapOf(o)
	holdDo(t, h, define(0, element(3), value(1)), h, full(), api.OK)
	holdDo(t, h, define(0, of("q"), value(1)), h, full(), api.OK)
	holdDo(t, h, define(0, element(2), value(1)), h, no(), api.OK)
	holdDo(t, h, define(0, element(2), api.Desc{}), h, yes(), api.OK)
	holdDo(t, h, define(0, length, value(3)), h, yes(), api.OK)
	hold(t, h, define(0, numbered(7), value(1)))
	o.Props = o.Props[1:]
	hold(t, heapOf(o), define(0, element(3), value(1)))
	hold(t, heapOf(o), keys(0))
}

func TestKeysOfStrings(t *testing.T) {
	h := house()
	ks := func(l ...api.Key) api.Out { return api.Out{Kind: 1, Keys: l} }
	holdDo(t, h, keys(aBoxed), h, ks(element(0), element(1), element(2), element(10), length, of("a"), of("01"), symbol(3)), api.OK)
	holdDo(t, h, keys(anEmptyBox), h, ks(element(0), length), api.OK)
	holdDo(t, h, keys(aShutBox), h, ks(element(0), element(1), element(3), length, of("z")), api.OK)
	holdDo(t, h, keys(aBoxOfProxy), h, ks(element(0), length), api.OK)
	holdDo(t, heapOf(boxed(null, "")), keys(0), heapOf(boxed(null, "")), ks(length), api.OK)
	var all []api.Key
	for i := range 1024 {
		all = append(all, element(i))
	}
	holdDo(t, h, keys(aLongBox), h, ks(append(all, length, of("1024"), of("q"))...), api.OK)
	for _, n := range []int{1023, 1024, 1025, 4096} {
		o := heapOf(boxed(null, long(n), of("a"), usual(null), symbol(1), usual(null), of("5000"), usual(null)))
		holdDo(t, o, keys(0), o, ks(append(append([]api.Key(nil), all[:min(n, 1024)]...), length, of("a"), of("5000"), symbol(1))...), api.OK)
	}
}

// parts are all descriptors that have some fields of some complete ones.
func parts() []api.Desc {
	var out []api.Desc
	seen := map[string]bool{}
	for i := range 8 {
		w, e, c := i&1 != 0, i&2 != 0, i&4 != 0
		for _, d := range []api.Desc{data(text("a"), w, e, c), data(number(2), w, e, c), data(number(1), w, e, c), access(undefined, undefined, e, c), access(maker(aFunction), undefined, e, c)} {
			for has := range uint8(64) {
				p := only(has, d)
				if has&^d.Has == 0 && !seen[showDesc(p)] {
					seen[showDesc(p)] = true
					out = append(out, p)
				}
			}
		}
	}
	return out
}

// Each descriptor, held against each own byte and other properties, of each array and string object.
func TestDefineOfHouse(t *testing.T) {
	count := map[bool]int{}
	h := house()
	for _, n := range exotics() {
		for _, k := range []api.Key{element(0), element(1), element(2), length, of("a"), element(9), of("q")} {
			for _, d := range parts() {
				_, out, _ := hold(t, h, define(n, k, d))
				count[out.Bool]++
			}
		}
	}
	if count[true] < 2000 || count[false] < 2000 {
		t.Error(count)
	}
}
