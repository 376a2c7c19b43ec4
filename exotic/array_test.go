package exotic_test

import (
	"math"
	"slices"
	"testing"

	"bailiff/api"
	"bailiff/exotic"
	"bailiff/heap"
)

func holdDo(t *testing.T, h api.Heap, a api.Ask, want api.Heap, out api.Out, e api.Errno) {
	t.Helper()
	got, o, g := exotic.Do(h, a)
	if !heap.Same(got, want) || showOut(o) != showOut(out) || g != e {
		t.Errorf("Do\n%s%s:\n%s%s, %d\nwant\n%s%s, %d", brief(h), showAsk(a), brief(got), showOut(o), int(g), brief(want), showOut(out), int(e))
	}
}

func refuse(t *testing.T, h api.Heap, a api.Ask, e api.Errno) {
	t.Helper()
	holdDo(t, h, a, api.Heap{}, api.Out{}, e)
}

// hold holds Do against its second reading.
func hold(t *testing.T, h api.Heap, a api.Ask) (api.Heap, api.Out, api.Errno) {
	t.Helper()
	after, out, e := again(h, a)
	holdDo(t, h, a, after, out, e)
	return after, out, e
}

// P13.2

var length = of("length")

// of567 is the chapter's heap L.
func of567() api.Heap {
	return heapOf(array(null, 3, element(0), usual(number(5)), element(1), usual(number(6)), element(2), usual(number(7))))
}

func TestExamplesOfArrays(t *testing.T) {
	l := of567()
	holdLength(t, l, 0, 3, true, api.OK)
	holdDo(t, l, define(0, length, value(1)), heapOf(array(null, 1, element(0), usual(number(5)))), yes(), api.OK)
	holdDo(t, l, define(0, length, value(2000)), l, full(), api.OK)
	holdDo(t, l, define(0, length, value(-1)), l, full(), api.OK)

	ten := heapOf(array(null, 10, element(0), usual(number(5)), element(1), usual(number(6)), element(2), usual(number(7)), element(9), stuck(number(1))))
	holdDo(t, l, define(0, element(9), value(1)), ten, yes(), api.OK)
	holdLength(t, ten, 0, 10, true, api.OK)

	fixed, _, _ := exotic.Do(l, define(0, element(1), api.Desc{Has: 32}))
	left := heapOf(array(null, 2, element(0), usual(number(5)), element(1), data(number(6), true, true, false)))
	holdDo(t, fixed, define(0, length, value(0)), left, no(), api.OK)
	holdLength(t, left, 0, 2, true, api.OK)

	shut, out, _ := exotic.Do(l, define(0, length, api.Desc{Has: 2}))
	if !out.Bool {
		t.Error(showOut(out))
	}
	holdLength(t, shut, 0, 3, false, api.OK)
	holdDo(t, shut, define(0, element(3), value(1)), shut, no(), api.OK)
	eight := heap.Twin(shut)
	eight.Objects[0].Props[3].Desc.Value = number(8)
	holdDo(t, shut, define(0, element(2), value(8)), eight, yes(), api.OK)
}

// value is a descriptor of a number alone.
func value(x float64) api.Desc { return api.Desc{Has: 1, Value: number(x)} }

// sized is a descriptor of a length, with more of it.
func sized(x float64, more api.Desc) api.Desc {
	more.Has |= 1
	more.Value = number(x)
	return more
}

func TestLengthRows(t *testing.T) {
	off, on := api.Desc{Has: 2}, api.Desc{Has: 2, Writable: true}
	wide := api.Desc{Has: 48}
	a := func(length float64, l ...any) api.Object { return array(null, length, l...) }
	zero, one, two := []any{element(0), usual(null)}, []any{element(1), stuck(null)}, []any{element(2), usual(null)}
	for i, c := range []struct {
		was, is api.Object
		d       api.Desc
		out     api.Out
	}{
		{a(3), a(3), api.Desc{}, yes()},
		{a(3), locked(a(3)), off, yes()},
		{a(3), a(3), on, yes()},
		{locked(a(3)), locked(a(3)), on, no()},
		{a(3), a(3), wide, yes()},
		{a(3), a(3), api.Desc{Has: 16, Enumerable: true}, no()},
		{a(3), a(3), api.Desc{Has: 32, Configurable: true}, no()},
		{a(3), a(3), api.Desc{Has: 4}, no()},
		{a(3), a(3), both(undefined, undefined), no()},
		{a(3), a(3), value(3), yes()},
		{a(3), a(4), value(4), yes()},
		{a(3), a(1024), value(1024), yes()},
		{a(3), a(3), value(1025), full()},
		{a(1024), a(1024), value(1024), yes()},
		{a(1024), a(1023), value(1023), yes()},
		{a(0), a(0), value(0), yes()},
		{a(3), locked(a(4)), sized(4, off), yes()},
		{a(3), a(4), sized(4, wide), yes()},
		{a(3), a(3), sized(4, api.Desc{Has: 16, Enumerable: true}), no()},
		{a(3), a(3), sized(2, api.Desc{Has: 16, Enumerable: true}), no()},
		{a(3), a(3), sized(2, api.Desc{Has: 32, Configurable: true}), no()},
		{a(3), a(2), sized(2, wide), yes()},
		{locked(a(3)), locked(a(3)), value(3), yes()},
		{locked(a(3)), locked(a(3)), sized(3, off), yes()},
		{locked(a(3)), locked(a(3)), sized(3, on), no()},
		{locked(a(3)), locked(a(3)), value(4), no()},
		{locked(a(3)), locked(a(3)), value(2), no()},
		{locked(a(3)), locked(a(3)), value(1025), full()},
		{locked(a(3, zero...)), locked(a(3, zero...)), value(0), no()},
		{a(3, zero...), a(1, zero...), value(1), yes()},
		{a(3, zero...), a(0), value(0), yes()},
		{a(3, zero...), locked(a(0)), sized(0, off), yes()},
		{a(3, one...), a(2, one...), value(2), yes()},
		{a(3, one...), a(2, one...), value(1), no()},
		{a(3, one...), locked(a(2, one...)), sized(0, off), no()},
		{a(3, one...), a(2, one...), sized(0, on), no()},
		{a(2, one...), a(2, one...), value(0), no()},
		{a(2, one...), locked(a(2, one...)), sized(1, off), no()},
		{a(9, slices.Concat(two, one, zero)...), a(2, slices.Concat(one, zero)...), value(0), no()},
		{a(9, slices.Concat(two, one, zero)...), a(3, slices.Concat(two, one, zero)...), value(3), yes()},
		{closed(a(3, zero...)), closed(a(0)), value(0), yes()},
		{closed(a(3)), closed(a(7)), value(7), yes()},
		{a(3, of("01"), usual(null), of("1024"), usual(null), of("a"), usual(null), symbol(0), usual(null)), a(0, of("01"), usual(null), of("1024"), usual(null), of("a"), usual(null), symbol(0), usual(null)), value(0), yes()},
		{a(3, of("5 "), stuck(null), element(2), access(undefined, undefined, true, false)), a(3, of("5 "), stuck(null), element(2), access(undefined, undefined, true, false)), value(1), no()},
	} {
		got, out, e := exotic.Do(heapOf(c.was), define(0, length, c.d))
		if !heap.Same(got, heapOf(c.is)) || showOut(out) != showOut(c.out) || e != api.OK {
			t.Error("row", i, brief(got), showOut(out), int(e))
		}
		hold(t, heapOf(c.was), define(0, length, c.d))
	}
}

// What is no length fails, whatever else is asked of it, and whatever the array takes.
func TestWhatIsNoLength(t *testing.T) {
	l := []api.Value{undefined, null, text("1"), text(""), {Kind: api.Boolean}, {Kind: api.Boolean, Num: 1}, {Kind: api.Symbol, Ref: 1}, thing(aPlain), maker(aFunction), callable(aNative), number(nan), number(-1), number(1025), number(1<<53 - 1), number(-(1<<53 - 1)), number(1 << 32)}
	h := house()
	for _, n := range arrays() {
		for _, v := range l {
			for _, has := range []uint8{1, 3, 17, 33, 51} {
				for _, b := range []bool{true, false} {
					d := only(has, data(v, b, b, b))
					holdDo(t, h, define(n, length, d), h, full(), api.OK)
				}
			}
		}
		for _, v := range wrong() {
			refuseDesc(t, h, define(n, length, api.Desc{Has: 1, Value: v}))
			refuseDesc(t, h, define(n, element(0), api.Desc{Has: 1, Value: v}))
			refuseDesc(t, h, define(n, element(1000), api.Desc{Has: 1, Value: v}))
		}
		refuse(t, h, define(n, length, api.Desc{Has: 1, Value: thing(houseSize)}), api.ErrHeap)
		refuse(t, h, define(n, length, api.Desc{Has: 1, Value: number(math.Copysign(0, -1))}), api.ErrDesc)
	}
}

// refuseDesc holds Do to its error, whichever of the two.
func refuseDesc(t *testing.T, h api.Heap, a api.Ask) {
	t.Helper()
	if _, _, e := hold(t, h, a); e != api.ErrDesc && e != api.ErrHeap {
		t.Error(showAsk(a), int(e))
	}
}

// states are what elements may be, beside none.
func states() []api.Desc {
	return []api.Desc{usual(number(1)), data(number(1), true, true, false), access(undefined, undefined, false, true), access(undefined, undefined, true, false)}
}

// someArrays are all arrays of few elements, each of which is there or not, fixed or not, and a few that are not in their order.
func someArrays(top int) []api.Object {
	l := []api.Object{array(null, 0)}
	for i := range top {
		for _, o := range l[:len(l):len(l)] {
			for _, d := range append(states(), api.Desc{}) {
				p := o
				p.Props = slices.Clone(o.Props)
				p.Props[0].Desc.Value = number(float64(i + 1))
				if d.Has != 0 {
					p.Props = append(p.Props, props(element(i), d)...)
				}
				l = append(l, p)
			}
		}
	}
	for i := range l {
		if i%3 == 0 {
			slices.Reverse(l[i].Props[1:])
		}
		l[i].Ext = i%4 != 0
		l[i].Props[0].Desc.Writable = i%5 != 0
	}
	return l
}

// sizes are descriptors of each length that counts, and of none, with all that may stand beside a Value.
func sizes(top int) []api.Desc {
	var out []api.Desc
	for has := range uint8(64) {
		if has&13 != 0 {
			continue
		}
		for i := range 8 {
			d := only(has, data(undefined, i&1 != 0, i&2 != 0, i&4 != 0))
			out = append(out, d)
			for x := range top + 2 {
				out = append(out, sized(float64(x), d))
			}
		}
	}
	return append(out, value(1024), value(1025), value(-1), value(nan), api.Desc{Has: 4}, api.Desc{Has: 8})
}

func TestLengthsOfAll(t *testing.T) {
	count, cut := map[bool]int{}, 0
	for _, o := range someArrays(3) {
		for _, d := range sizes(3) {
			after, out, _ := hold(t, heapOf(o), define(0, length, d))
			count[out.Bool]++
			if len(after.Objects[0].Props) < len(o.Props) && !out.Bool {
				cut++
			}
		}
	}
	if count[true] < 5000 || count[false] < 5000 || cut < 500 {
		t.Error(count, cut)
	}
}

func TestElementsOfAll(t *testing.T) {
	count := map[bool]int{}
	for _, o := range someArrays(3) {
		for i := range 5 {
			for _, d := range append(states(), api.Desc{}, value(1), value(2), api.Desc{Has: 48}, api.Desc{Has: 4}, stuck(null)) {
				h := heapOf(o)
				after, out, _ := hold(t, h, define(0, element(i), d))
				count[out.Bool]++
				hold(t, after, get(0, element(i)))
			}
			after, _, _ := hold(t, heapOf(o), erase(0, element(i)))
			hold(t, after, get(0, length))
			hold(t, after, keys(0))
		}
	}
	if count[true] < 1000 || count[false] < 1000 {
		t.Error(count)
	}
}

func TestElementRows(t *testing.T) {
	a := func(length float64, l ...any) api.Object { return array(null, length, l...) }
	for i, c := range []struct {
		was, is api.Object
		k       api.Key
		out     api.Out
	}{
		{a(0), a(1, element(0), stuck(number(1))), element(0), yes()},
		{a(0), a(1024, element(1023), stuck(number(1))), element(1023), yes()},
		{a(0), a(0, of("1024"), stuck(number(1))), of("1024"), yes()}, // no index
		{a(0), a(0, of("00"), stuck(number(1))), of("00"), yes()},
		{a(0), a(0, of("-1"), stuck(number(1))), of("-1"), yes()},
		{a(0), a(0, of("1.0"), stuck(number(1))), of("1.0"), yes()},
		{a(0), a(0, symbol(3), stuck(number(1))), symbol(3), yes()},
		{a(5), a(5, element(4), stuck(number(1))), element(4), yes()},
		{a(5), a(6, element(5), stuck(number(1))), element(5), yes()},
		{locked(a(5)), locked(a(5, element(4), stuck(number(1)))), element(4), yes()},
		{locked(a(5)), locked(a(5)), element(5), no()},
		{locked(a(5)), locked(a(5)), element(1023), no()},
		{locked(a(5)), locked(a(5, of("a"), stuck(number(1)))), of("a"), yes()},
		{closed(a(5)), closed(a(5)), element(4), no()},
		{closed(a(5)), closed(a(5)), element(5), no()},
		{a(5, element(4), stuck(null)), a(5, element(4), stuck(null)), element(4), no()},
		{a(5, element(4), usual(null)), a(5, element(4), usual(number(1))), element(4), yes()},
	} {
		got, out, e := exotic.Do(heapOf(c.was), define(0, c.k, value(1)))
		if !heap.Same(got, heapOf(c.is)) || showOut(out) != showOut(c.out) || e != api.OK {
			t.Error("row", i, brief(got), showOut(out), int(e))
		}
	}
}

// An array with all the properties for which there is room: a new index fails, and its length stays.
func TestAnArrayWithoutRoom(t *testing.T) {
	o := array(null, 1000)
	for i := range api.MaxProps - 1 {
		if i < 900 {
			o.Props = append(o.Props, props(element(i), usual(null))...)
		} else {
			o.Props = append(o.Props, props(numbered(i), usual(null))...)
		}
	}
	h := heapOf(o)
	for _, k := range []api.Key{element(900), element(1000), element(1023), of("1024"), of("a"), symbol(0)} {
		holdDo(t, h, define(0, k, value(1)), h, full(), api.OK)
	}
	holdDo(t, h, define(0, length, value(1025)), h, full(), api.OK)
	hold(t, h, define(0, element(899), value(1)))
	shut := heapOf(closed(o))
	holdDo(t, shut, define(0, element(1000), value(1)), shut, no(), api.OK)
	fast := heap.Twin(h)
	locked(fast.Objects[0])
	holdDo(t, fast, define(0, element(1000), value(1)), fast, no(), api.OK) // its length comes first
	holdDo(t, fast, define(0, element(900), value(1)), fast, full(), api.OK)

	after, out, _ := hold(t, h, define(0, length, value(899)))
	if !out.Bool || len(after.Objects[0].Props) != api.MaxProps-1 {
		t.Error(showOut(out), len(after.Objects[0].Props))
	}
	after, out, _ = hold(t, after, define(0, element(1023), value(1)))
	if !out.Bool {
		t.Error(showOut(out))
	}
	holdLength(t, after, 0, 1024, true, api.OK)
	after, out, _ = hold(t, h, define(0, length, value(0)))
	if !out.Bool || len(after.Objects[0].Props) != api.MaxProps-900 {
		t.Error(showOut(out), len(after.Objects[0].Props))
	}
}

// The first that is fixed from above holds those below it, whatever they are.
func TestALongArrayCut(t *testing.T) {
	for _, at := range []int{0, 1, 500, 1021, 1022} {
		o := array(null, 1023)
		for i := range 1023 {
			d := usual(number(float64(i)))
			if i == at || i == at/2 {
				d = stuck(null)
			}
			o.Props = append(o.Props, props(element(i), d)...)
		}
		slices.Reverse(o.Props[1:])
		for _, size := range []float64{0, float64(at), float64(at + 1), 1022} {
			after, _, _ := hold(t, heapOf(o), define(0, length, value(size)))
			holdLength(t, after, 0, max(int(size), at+1), true, api.OK)
		}
	}
}

// All else that is asked of an array is done as a plain one.
func TestArraysAsPlainOnes(t *testing.T) {
	h := house()
	for _, n := range arrays() {
		o := h.Objects[n]
		holdDo(t, h, getProto(n), h, api.Out{Kind: 1, Value: o.Proto}, api.OK)
		holdDo(t, h, erase(n, length), h, no(), api.OK)
		holdDo(t, h, get(n, length), h, api.Out{Kind: 1, Found: true, Desc: o.Props[0].Desc}, api.OK)
		shut := house()
		shut.Objects[n].Ext = false
		holdDo(t, h, prevent(n), shut, yes(), api.OK)
		holdDo(t, h, extensible(n), h, api.Out{Kind: 1, Bool: o.Ext}, api.OK)
	}
	holdDo(t, h, keys(anArray), h, api.Out{Kind: 1, Keys: []api.Key{element(0), element(1), element(2), length, of("a"), symbol(0)}}, api.OK)
	holdDo(t, h, keys(aShut), h, api.Out{Kind: 1, Keys: []api.Key{element(0), element(3), length, of("1024")}}, api.OK)
	holdDo(t, h, get(anArray, element(3)), h, no(), api.OK)
	holdDo(t, h, setProto(anArray, thing(aLocked)), h, no(), api.OK) // it stands behind it
	holdDo(t, h, setProto(aShut, null), h, no(), api.OK)
	want := house()
	want.Objects[anArray].Proto = thing(aShutBox)
	holdDo(t, h, setProto(anArray, thing(aShutBox)), want, yes(), api.OK)
}
