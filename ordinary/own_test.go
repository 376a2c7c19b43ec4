package ordinary_test

import (
	"math"
	"slices"
	"testing"

	"bailiff/api"
	"bailiff/ordinary"
)

func holdLoops(t *testing.T, h api.Heap, n int, v api.Value, want bool, e api.Errno) {
	t.Helper()
	if got, g := ordinary.Loops(h, n, v); got != want || g != e {
		t.Error("Loops", brief(h), n, showValue(v), got, int(g))
	}
}

func holdOwn(t *testing.T, h api.Heap, n int, k api.Key, want api.Desc, found bool, e api.Errno) {
	t.Helper()
	if d, is, g := ordinary.Own(h, n, k); showDesc(d) != showDesc(want) || is != found || g != e {
		t.Error("Own", brief(h), n, k, showDesc(d), is, int(g))
	}
}

func holdKeys(t *testing.T, h api.Heap, n int, want []api.Key, e api.Errno) {
	t.Helper()
	if got, g := ordinary.Keys(h, n); !slices.Equal(got, want) || g != e {
		t.Error("Keys", brief(h), n, got, int(g))
	}
}

// P12.2

func TestExamplesOfLoops(t *testing.T) {
	holdLoops(t, two(), 0, thing(1), true, api.OK)
	holdLoops(t, two(), 1, thing(0), false, api.OK)
}

func TestLoopsOfHouse(t *testing.T) {
	h := house()
	count := 0
	for n := range houseSize { // of any Kind
		holdLoops(t, h, n, null, false, api.OK)
		for _, v := range values() {
			want := slices.Contains(line(h, v), n)
			holdLoops(t, h, n, v, want, api.OK)
			if want {
				count++
			}
		}
	}
	if count < 30 {
		t.Error(count)
	}
}

func TestLoopsRows(t *testing.T) {
	h := house()
	for i, c := range []struct {
		n    int
		v    api.Value
		want bool
	}{
		{aPlain, thing(aPlain), true},
		{anArray, thing(anArray), true},
		{ofThing, thing(ofThing), true},
		{goneMaker, maker(goneMaker), true},
		{aPlain, maker(aMaker), true}, // by way of a native and a function
		{aFunction, maker(aMaker), true},
		{aFunc, maker(aMaker), true},
		{aMaker, maker(aMaker), true},
		{aMaker, callable(aFunc), false},
		{aPlain, thing(aClosed), true}, // by way of a string object and an array
		{anArray, thing(aClosed), true},
		{aBoxed, thing(aClosed), true},
		{aBoxed, thing(ofArray), false},
		{aPlain, thing(ofThing), false}, // what a proxy is of does not stand behind it
		{anArray, thing(ofThing), false},
		{ofThing, thing(aChild), true},
		{aPlain, thing(aChild), false},
		{aFunction, maker(ofMaker), false},
		{aChild, thing(ofThing), false},
	} {
		if got, e := ordinary.Loops(h, c.n, c.v); got != c.want || e != api.OK {
			t.Error("row", i, got, int(e))
		}
	}
}

func TestErrorsOfLoops(t *testing.T) {
	h := house()
	for _, v := range append(wrong(), undefined, number(0), text("null"), api.Value{Kind: api.Boolean}, api.Value{Kind: api.Symbol}) {
		for n := range houseSize {
			holdLoops(t, h, n, v, false, api.ErrHeap)
		}
		holdLoops(t, h, -1, v, false, api.ErrArg)
		holdLoops(t, h, houseSize, v, false, api.ErrArg)
		holdLoops(t, api.Heap{}, 0, v, false, api.ErrArg)
	}
	for _, n := range []int{-1, -2, houseSize, houseSize + 1, math.MinInt, math.MaxInt} {
		holdLoops(t, h, n, null, false, api.ErrArg)
		holdLoops(t, h, n, thing(aPlain), false, api.ErrArg)
		holdLoops(t, h, n, thing(n), false, api.ErrArg)
	}
}

// P12.3

// Each property of each object of house, whatever its Kind: what stands there, and nothing else.
func TestOwnAndKeysOfHouse(t *testing.T) {
	h := house()
	for n, o := range h.Objects {
		for _, k := range someKeys() {
			if !readKey(k) {
				holdOwn(t, h, n, k, api.Desc{}, false, api.ErrHeap)
				holdOwn(t, h, -1, k, api.Desc{}, false, api.ErrArg)
				holdOwn(t, h, houseSize, k, api.Desc{}, false, api.ErrArg)
				continue
			}
			at := slices.IndexFunc(o.Props, func(p api.Prop) bool { return p.Key == k })
			if at < 0 {
				holdOwn(t, h, n, k, api.Desc{}, false, api.OK)
			} else {
				holdOwn(t, h, n, k, o.Props[at].Desc, true, api.OK)
			}
			holdOwn(t, api.Heap{}, n, k, api.Desc{}, false, api.ErrArg)
		}
	}
}

func TestOwnAndKeysRows(t *testing.T) {
	h := house()
	holdOwn(t, h, anArray, of("length"), data(number(2), true, false, false), true, api.OK)
	holdOwn(t, h, aBoxed, of("length"), api.Desc{}, false, api.OK) // what a string object has of itself is no property of it here
	holdOwn(t, h, aBoxed, of("0"), api.Desc{}, false, api.OK)
	holdOwn(t, h, aBoxed, of("2"), usual(null), true, api.OK)
	holdOwn(t, h, ofThing, of("a"), api.Desc{}, false, api.OK) // nor what a proxy's target has
	holdOwn(t, h, aFunc, of("a"), api.Desc{}, false, api.OK)   // nor what a prototype has
	holdOwn(t, h, aChild, symbol(0), usual(maker(aFunction)), true, api.OK)

	holdKeys(t, h, aPlain, []api.Key{of("1"), of("a"), of("b")}, api.OK)
	holdKeys(t, h, anArray, []api.Key{of("0"), of("1"), of("length"), of("a")}, api.OK)
	holdKeys(t, h, aBoxed, []api.Key{of("2"), of("a")}, api.OK)
	holdKeys(t, h, aChild, []api.Key{of("10"), of("a"), symbol(0)}, api.OK)
	for _, n := range []int{aMaker, ofThing, ofMaker, ofFunc, goneThing, goneFunc, goneMaker} {
		holdKeys(t, h, n, nil, api.OK)
	}
	for _, n := range []int{-1, -2, houseSize, houseSize + 1, math.MinInt, math.MaxInt} {
		holdKeys(t, h, n, nil, api.ErrArg)
		holdOwn(t, h, n, of("a"), api.Desc{}, false, api.ErrArg)
	}
	holdKeys(t, api.Heap{}, 0, nil, api.ErrArg)
}

func TestOwnAndKeysOfMany(t *testing.T) {
	o := plain(null)
	o.Props = these(api.MaxProps)
	h := many(api.MaxObjects)
	last := api.MaxObjects - 1
	h.Objects[last] = o
	want := make([]api.Key, api.MaxProps)
	for i := range want {
		want[i] = numbered(i)
	}
	holdKeys(t, h, last, want, api.OK)
	holdKeys(t, h, last-1, nil, api.OK)
	for _, i := range []int{0, 1, 500, api.MaxProps - 1} {
		holdOwn(t, h, last, numbered(i), usual(number(float64(i))), true, api.OK)
	}
	holdOwn(t, h, last, numbered(api.MaxProps), api.Desc{}, false, api.OK)
	holdOwn(t, h, last+1, numbered(0), api.Desc{}, false, api.ErrArg)
}
