package table_test

import (
	"math"
	"slices"
	"testing"

	"bailiff/api"
	"bailiff/table"
)

// P10.1

func TestExamplesOfCheck(t *testing.T) {
	if e := table.Check(those(of("a"), of("a"))); e != api.ErrTable {
		t.Error(int(e))
	}
	if e := table.Check([]api.Prop{prop(of("a"), api.Desc{Has: 1, Value: number(1)})}); e != api.ErrDesc {
		t.Error(int(e))
	}
}

func holdCheck(t *testing.T, l []api.Prop, want api.Errno) {
	t.Helper()
	if e := table.Check(l); e != want {
		t.Error(show(l), int(e))
	}
}

func TestCheck(t *testing.T) {
	holdCheck(t, nil, api.OK)
	holdCheck(t, []api.Prop{}, api.OK)
	holdCheck(t, those(goodKeys()...), api.OK)
	holdCheck(t, full(api.MaxProps-1), api.OK)
	holdCheck(t, full(api.MaxProps), api.OK)
	for _, d := range goodDescs() {
		holdCheck(t, []api.Prop{prop(of("a"), d)}, api.OK)
		holdCheck(t, []api.Prop{prop(of("a"), d), prop(of("b"), usual(1)), prop(of("c"), d)}, api.OK)
	}
	for _, c := range faulty() {
		holdCheck(t, c.l, c.e)
	}
}

// A string's key and a symbol's are two, and so are keys that are worth one number.
func TestCheckOfKeysThatAreNear(t *testing.T) {
	holdCheck(t, those(of(""), symbol(0), of("symbol 0"), of("0"), symbol(1), of("1"), of("01"), of("1 "), of("a"), of("A")), api.OK)
	holdCheck(t, those(symbol(1), symbol(0), symbol(1)), api.ErrTable)
	holdCheck(t, those(of(""), symbol(0), of("")), api.ErrTable)
	holdCheck(t, those(of(long(api.MaxString)), of(long(api.MaxString-1)), of(long(api.MaxString))), api.ErrTable)
}

func TestCheckOfEachKey(t *testing.T) {
	for _, k := range badKeys() {
		holdCheck(t, those(k), api.ErrHeap)
		holdCheck(t, those(k, k), api.ErrHeap)
		holdCheck(t, those(of("c"), k), api.ErrHeap)
		holdCheck(t, []api.Prop{prop(k, api.Desc{})}, api.ErrHeap)
	}
}

func TestCheckOfEachDesc(t *testing.T) {
	for _, d := range badDescs() {
		p := prop(of("b"), d)
		holdCheck(t, []api.Prop{p}, api.ErrDesc)
		holdCheck(t, append(those(of("a"), symbol(0)), p), api.ErrDesc)
		holdCheck(t, append(those(of("b")), p), api.ErrDesc)
		holdCheck(t, append([]api.Prop{p}, those(of("b"))...), api.ErrDesc)
	}
}

// All lists of a few properties, held against the words: the fault of each one, in order.
func TestCheckOfAllShort(t *testing.T) {
	var all []api.Prop
	for _, k := range []api.Key{of("a"), of("1"), symbol(0), both("a", 1), both("1", -1)} {
		all = append(all, prop(k, usual(1)), prop(k, access(callable(3), api.Value{}, false, false)), prop(k, api.Desc{Has: 3}))
	}
	fault := func(l []api.Prop) api.Errno {
		for i, p := range l {
			switch {
			case p.Key == both("a", 1), p.Key == both("1", -1):
				return api.ErrHeap
			case p.Desc.Has == 3:
				return api.ErrDesc
			case slices.ContainsFunc(l[:i], func(q api.Prop) bool { return q.Key == p.Key }):
				return api.ErrTable
			}
		}
		return api.OK
	}
	counts := map[api.Errno]int{}
	var on func(l []api.Prop)
	on = func(l []api.Prop) {
		counts[fault(l)]++
		holdCheck(t, l, fault(l))
		if len(l) < 4 {
			for _, p := range all {
				on(append(l[:len(l):len(l)], p))
			}
		}
	}
	on(nil)
	if len(counts) != 4 || counts[api.OK] != 1+6+24+48 {
		t.Error(counts)
	}
}

// P10.2

func TestExamplesOfPutAndDrop(t *testing.T) {
	d := access(callable(3), api.Value{}, true, false)
	l := those(of("a"), of("b"))
	holdPut(t, l, of("a"), d, []api.Prop{prop(of("a"), d), l[1]}, api.OK)
	l = those(of("a"), of("b"), of("c"))
	holdDrop(t, l, of("b"), []api.Prop{l[0], l[2]}, api.OK)
	l = those(of("a"))
	holdDrop(t, l, of("z"), l, api.OK)
}

func holdFind(t *testing.T, l []api.Prop, k api.Key, want api.Desc, is bool, e api.Errno) {
	t.Helper()
	if d, found, g := table.Find(l, k); !equalDesc(d, want) || found != is || g != e {
		t.Error(show(l), showKey(k), showDesc(d), found, int(g))
	}
}

func holdPut(t *testing.T, l []api.Prop, k api.Key, d api.Desc, want []api.Prop, e api.Errno) {
	t.Helper()
	if got, g := table.Put(l, k, d); !equal(got, want) || g != e {
		t.Error(show(l), showKey(k), showDesc(d), show(got), int(g))
	}
}

func holdDrop(t *testing.T, l []api.Prop, k api.Key, want []api.Prop, e api.Errno) {
	t.Helper()
	if got, g := table.Drop(l, k); !equal(got, want) || g != e {
		t.Error(show(l), showKey(k), show(got), int(g))
	}
}

// with is a second reading of Put, one property after the other.
func with(l []api.Prop, k api.Key, d api.Desc) []api.Prop {
	var out []api.Prop
	there := false
	for _, p := range l {
		if p.Key == k {
			p.Desc, there = d, true
		}
		out = append(out, p)
	}
	if !there {
		out = append(out, prop(k, d))
	}
	return out
}

func without(l []api.Prop, k api.Key) []api.Prop {
	return slices.DeleteFunc(slices.Clone(l), func(p api.Prop) bool { return p.Key == k })
}

func seek(l []api.Prop, k api.Key) (api.Desc, bool) {
	for _, p := range l {
		if p.Key == k {
			return p.Desc, true
		}
	}
	return api.Desc{}, false
}

func holdAll(t *testing.T, l []api.Prop, k api.Key, d api.Desc) {
	t.Helper()
	now, is := seek(l, k)
	holdFind(t, l, k, now, is, api.OK)
	holdPut(t, l, k, d, with(l, k, d), api.OK)
	holdDrop(t, l, k, without(l, k), api.OK)
}

// Each key where it is there, at each place, and where it is not.
func TestOfAllShort(t *testing.T) {
	keys := []api.Key{of("b"), of("1"), of("0"), of(""), symbol(0), symbol(3)}
	all := lists(keys, 5)
	if len(all) != 1+6+30+120+360+720 {
		t.Error(len(all))
	}
	for _, l := range all {
		for _, k := range append(keys, of("z"), symbol(1)) {
			holdAll(t, l, k, data(text("put"), false, true, false))
		}
	}
}

func TestOfEachKeyAndDesc(t *testing.T) {
	l := those(goodKeys()...)
	for _, k := range append(goodKeys(), of("z"), symbol(99)) {
		for _, d := range goodDescs() {
			holdAll(t, l, k, d)
			holdAll(t, nil, k, d)
			holdAll(t, with(l, k, d), k, usual(1))
		}
	}
}

func TestPutOfAFullList(t *testing.T) {
	l := full(api.MaxProps)
	for _, k := range []api.Key{numbered(0), numbered(1), numbered(500), numbered(1022), numbered(1023)} {
		holdAll(t, l, k, usual(7))
	}
	for _, k := range []api.Key{numbered(1024), of(""), of("5"), symbol(0)} {
		holdPut(t, l, k, usual(7), nil, api.ErrTable)
		holdFind(t, l, k, api.Desc{}, false, api.OK)
		holdDrop(t, l, k, l, api.OK)
		holdPut(t, l, k, api.Desc{}, nil, api.ErrDesc)
	}
	holdPut(t, l, both("a", 1), usual(7), nil, api.ErrHeap)
	l = full(api.MaxProps - 1)
	holdAll(t, l, of("a"), usual(7))
	holdAll(t, l, numbered(1022), usual(7))
}

func TestRefusedKeys(t *testing.T) {
	for _, k := range badKeys() {
		for _, l := range [][]api.Prop{nil, those(of("a")), those(of("0"), symbol(0)), full(api.MaxProps)} {
			holdFind(t, l, k, api.Desc{}, false, api.ErrHeap)
			holdDrop(t, l, k, nil, api.ErrHeap)
			holdPut(t, l, k, usual(1), nil, api.ErrHeap)
			holdPut(t, l, k, api.Desc{Has: 1}, nil, api.ErrHeap)
		}
	}
}

func TestRefusedDescs(t *testing.T) {
	for _, d := range badDescs() {
		for _, l := range [][]api.Prop{nil, those(of("a")), those(of("b"), of("a"), symbol(0))} {
			for _, k := range []api.Key{of("a"), of("z"), symbol(1)} {
				holdPut(t, l, k, d, nil, api.ErrDesc)
			}
		}
	}
}

// Check's error comes first in all calls, and beside it stands nothing.
func TestCheckComesFirst(t *testing.T) {
	for _, c := range faulty() {
		for _, k := range []api.Key{of("a"), of("z"), both("a", 1)} {
			holdFind(t, c.l, k, api.Desc{}, false, c.e)
			holdDrop(t, c.l, k, nil, c.e)
			holdPut(t, c.l, k, usual(1), nil, c.e)
			holdPut(t, c.l, k, api.Desc{Has: 5}, nil, c.e)
		}
		if l, e := table.Keys(c.l); len(l) != 0 || e != c.e {
			t.Error("Keys", show(c.l), showKeys(l), int(e))
		}
		if l, e := table.Names(c.l); len(l) != 0 || e != c.e {
			t.Error("Names", show(c.l), showKeys(l), int(e))
		}
		if is, e := table.Sealed(c.l); is || e != c.e {
			t.Error("Sealed", show(c.l), is, int(e))
		}
		if is, e := table.Frozen(c.l); is || e != c.e {
			t.Error("Frozen", show(c.l), is, int(e))
		}
	}
}

// What would be frozen if it might be is not.
func TestCheckComesFirstOfWhatIsFixed(t *testing.T) {
	fixed := prop(of("a"), data(number(1), false, false, false))
	for _, l := range [][]api.Prop{{fixed, fixed}, {prop(both("a", 1), fixed.Desc)}, {prop(of("a"), api.Desc{Has: 1})}} {
		want := table.Check(l)
		if is, e := table.Sealed(l); is || e != want || e == api.OK {
			t.Error("Sealed", show(l), is, int(e))
		}
		if is, e := table.Frozen(l); is || e != want {
			t.Error("Frozen", show(l), is, int(e))
		}
	}
}

// P10.6

// A long run of Puts and Drops, made by a short rule: what was put is found, what was dropped is not, all others stay as they were.
func TestARun(t *testing.T) {
	seed := uint32(1)
	next := func(n int) int {
		seed = seed*1664525 + 1013904223
		return int(seed>>8) % n
	}
	keys, descs := goodKeys(), goodDescs()
	var l []api.Prop
	for range 3000 {
		k, d := keys[next(len(keys))], descs[next(len(descs))]
		was := slices.Clone(l)
		var e api.Errno
		if next(5) < 3 {
			l, e = table.Put(l, k, d)
			holdFind(t, l, k, d, true, api.OK)
		} else {
			l, e = table.Drop(l, k)
			holdFind(t, l, k, api.Desc{}, false, api.OK)
		}
		if e != api.OK || table.Check(l) != api.OK || !equal(without(l, k), without(was, k)) {
			t.Fatal(showKey(k), show(was), show(l), int(e))
		}
		if len(was) != 0 { // what is found there changes nothing
			p := was[next(len(was))]
			found, is, e := table.Find(was, p.Key)
			if !is || e != api.OK {
				t.Error(showKey(p.Key), int(e))
			}
			holdPut(t, was, p.Key, found, was, api.OK)
		}
	}
	if len(l) < 4 || len(l) == len(keys) {
		t.Error(len(l))
	}
}

// A list filled one by one, to the last that has room, and emptied again.
func TestFilled(t *testing.T) {
	var l []api.Prop
	var e api.Errno
	for i := range api.MaxProps {
		if l, e = table.Put(l, numbered(i), usual(float64(100+i))); e != api.OK {
			t.Fatal(i, int(e))
		}
	}
	if !equal(l, full(api.MaxProps)) {
		t.Error("filled")
	}
	for i := range api.MaxProps {
		if l, e = table.Drop(l, numbered(i*5%api.MaxProps)); e != api.OK || len(l) != api.MaxProps-1-i {
			t.Fatal(i, len(l), int(e))
		}
	}
}

func TestMinusNoughtStays(t *testing.T) {
	d := data(number(1), false, false, false)
	d.Get.Num = minus
	l := []api.Prop{prop(of("a"), d)}
	got, is, e := table.Find(l, of("a"))
	if !is || e != api.OK || !math.Signbit(got.Get.Num) {
		t.Error(showDesc(got), is, int(e))
	}
	holdPut(t, nil, of("a"), d, l, api.OK)
	holdDrop(t, append(those(of("b")), l...), of("b"), l, api.OK)
}
