package exotic_test

import (
	"math"
	"testing"

	"bailiff/api"
	"bailiff/heap"
	"bailiff/ordinary"
)

// P13.1

// All methods, the eight and the others, asked of all objects, those that are proxies and those that are not there.
func TestWhichAsksMayBe(t *testing.T) {
	h := house()
	for m := range 256 {
		a := api.Ask{Method: uint8(m), Key: of("a"), Desc: usual(number(1)), Value: null, Receiver: thing(0)}
		for n := -2; n < houseSize+2; n++ {
			a.Object = n
			hold(t, h, a)
			if m == 0 || m > 11 || 7 <= m && m <= 9 {
				refuse(t, h, a, api.ErrArg)
			}
		}
		for _, n := range append(proxies(), math.MinInt, math.MaxInt, -1<<32, -1, houseSize) {
			a.Object = n
			refuse(t, h, a, api.ErrArg)
		}
		a.Object = 0
		refuse(t, api.Heap{}, a, api.ErrArg)
	}
}

// eight are asks of each of the methods that may be asked of the objects.
func eight(n int) []api.Ask {
	return []api.Ask{getProto(n), setProto(n, null), extensible(n), prevent(n), get(n, of("a")), define(n, of("a"), api.Desc{Has: 16}), erase(n, of("a")), keys(n)}
}

// What is asked of a plain object is done as chapter 12 says.
func TestPlainObjects(t *testing.T) {
	h := house()
	for _, n := range plains() {
		for _, a := range append(eight(n), define(n, length, value(3)), define(n, element(5), value(3)), define(n, length, value(-1)), get(n, length), get(n, element(1)), erase(n, element(1)), setProto(n, thing(aBoxed))) {
			want, out, e := ordinary.Do(h, a)
			holdDo(t, h, a, want, out, e)
			hold(t, h, a)
		}
	}
}

func TestProtosOfHouse(t *testing.T) {
	count := map[bool]int{}
	for _, n := range exotics() {
		for _, v := range append(values(), null) {
			for _, open := range []bool{true, false} {
				h := house()
				h.Objects[n].Ext = open
				_, out, _ := hold(t, h, setProto(n, v))
				count[out.Bool]++
			}
		}
		hold(t, house(), getProto(n))
		hold(t, house(), extensible(n))
		hold(t, house(), prevent(n))
	}
	if count[true] < 50 || count[false] < 100 {
		t.Error(count)
	}
}

// What a method does not have counts for nothing, whatever stands there.
func TestWhatIsNotOfTheMethod(t *testing.T) {
	junk := api.Value{Kind: 99, Num: minus, Str: long(5000), Ref: -7}
	for _, n := range exotics() {
		for _, a := range append(eight(n), get(n, length), erase(n, element(0)), define(n, length, value(2)), define(n, element(0), api.Desc{})) {
			h := house()
			want, out, e := again(h, a)
			if e != api.OK {
				t.Fatal(showAsk(a))
			}
			if a.Method < 5 || a.Method == 11 {
				a.Key = api.Key{Str: long(5000), Sym: -3}
			}
			if a.Method != 6 {
				a.Desc = api.Desc{Has: 255, Value: junk, Get: junk, Set: junk, Writable: true, Enumerable: true, Configurable: true}
			}
			if a.Method != 2 {
				a.Value = junk
			}
			a.Receiver, a.Args = junk, make([]api.Value, 100)
			holdDo(t, h, a, want, out, api.OK)
		}
	}
}

// wrong are values that may not be in house.
func wrong() []api.Value {
	l := []api.Value{{Kind: 9}, {Kind: 255}, number(0.5), number(minus), number(1 << 53), number(math.Inf(-1)), text(long(4097)), {Kind: api.Null, Num: 1}, {Kind: api.Null, Num: minus}, {Kind: api.Null, Str: "a"}, {Kind: api.Null, Ref: 1}, {Num: minus}, {Ref: 1}, {Kind: api.Boolean, Num: 2}, {Kind: api.Symbol, Ref: -1}, {Kind: api.Number, Ref: 1}, {Kind: api.Number, Str: "1"}, {Kind: api.Thing, Num: 1}, {Kind: api.Thing, Str: "a"}, {Kind: api.Maker, Ref: aFunction, Num: minus}}
	for _, n := range []int{-1, houseSize, houseSize + 1, math.MinInt, math.MaxInt} {
		l = append(l, thing(n), callable(n), maker(n))
	}
	for _, v := range values() { // the number of one, but not what it can do
		for k := api.Thing; k <= api.Maker; k++ {
			if k != v.Kind {
				l = append(l, api.Value{Kind: k, Ref: v.Ref})
			}
		}
	}
	return l
}

// someKeys are keys that objects of house have, keys that none has, and such as may not be.
func someKeys() []api.Key {
	return []api.Key{of("a"), of("b"), length, element(0), element(1), element(2), element(4), element(8), element(9), element(1023), of("1024"), of("01"), of("name"), of(""), symbol(0), symbol(3), symbol(math.MaxInt - 1), of(long(4096)), of(long(4097)), {Sym: -1}, {Str: "a", Sym: 1}, {Str: "0", Sym: -1}, {Str: "length", Sym: 1}, {Sym: math.MinInt}}
}

func TestWrongValues(t *testing.T) {
	h := house()
	for _, n := range exotics() {
		for _, v := range append(wrong(), undefined, number(0), text(""), api.Value{Kind: api.Boolean, Num: 1}, api.Value{Kind: api.Symbol}) {
			refuse(t, h, setProto(n, v), api.ErrHeap)
		}
		for _, v := range wrong() {
			for _, d := range []api.Desc{{Has: 1, Value: v}, {Has: 4, Get: v}, {Has: 8, Set: v}, usual(v), both(v, callable(aNative)), both(undefined, v)} {
				for _, k := range []api.Key{length, element(0), element(9), of("a"), of("q")} {
					refuseDesc(t, h, define(n, k, d))
				}
			}
		}
	}
}

func TestKeysOfHouse(t *testing.T) {
	found, gone := 0, 0
	for _, n := range append(exotics(), plains()...) {
		for _, k := range someKeys() {
			h := house()
			_, out, _ := hold(t, h, get(n, k))
			if out.Found {
				found++
			}
			after, out, e := hold(t, h, erase(n, k))
			if out.Bool && !heap.Same(after, h) {
				gone++
				hold(t, after, get(n, k))
				hold(t, after, keys(n))
			}
			if e != api.OK && readKey(k) || e == api.OK && !readKey(k) {
				t.Error(n, k, int(e))
			}
			hold(t, h, define(n, k, api.Desc{Has: 49, Value: number(2), Configurable: true}))
		}
		hold(t, house(), keys(n))
	}
	if found < 30 || gone < 15 {
		t.Error(found, gone)
	}
}

// The errors in their order: what comes first is told, whatever is wrong behind it.
func TestErrorsInTheirOrder(t *testing.T) {
	h := house()
	badKey, badDesc, badValue := api.Key{Str: "0", Sym: -1}, api.Desc{Has: 5}, usual(thing(99))
	for _, n := range append(proxies(), -1, houseSize) {
		for _, a := range eight(n) {
			a.Key, a.Desc, a.Value = badKey, badDesc, undefined
			refuse(t, h, a, api.ErrArg)
		}
	}
	for _, n := range exotics() {
		for _, m := range []uint8{0, 7, 8, 9, 12, 13, 14} {
			refuse(t, h, api.Ask{Method: m, Object: -1, Key: badKey}, api.ErrArg)
			refuse(t, h, api.Ask{Method: m, Object: n, Key: badKey, Desc: badDesc}, api.ErrArg)
		}
		refuse(t, h, define(n, badKey, badDesc), api.ErrHeap)
		refuse(t, h, define(n, badKey, badValue), api.ErrHeap)
		for _, k := range []api.Key{length, element(0), element(9), of("a")} {
			refuse(t, h, define(n, k, api.Desc{Has: 5, Value: thing(99)}), api.ErrDesc)
			refuse(t, h, define(n, k, api.Desc{Has: 1, Value: thing(-1)}), api.ErrDesc) // it may not be in any heap
			refuse(t, h, define(n, k, badValue), api.ErrHeap)
			refuse(t, h, define(n, k, api.Desc{Has: 5, Value: number(2000)}), api.ErrDesc)
		}
	}
}

// Check's error comes first, and beside it stands nothing.
func TestCheckComesFirst(t *testing.T) {
	for _, h := range refused() {
		for _, n := range []int{0, 1, -1, anArray, aBoxed, len(h.Objects)} {
			for _, a := range append(eight(n), api.Ask{Method: 0, Object: n}, define(n, length, value(0)), define(n, element(0), api.Desc{Has: 5}), define(n, of("a"), usual(thing(99)))) {
				refuse(t, h, a, api.ErrHeap)
			}
		}
	}
}

// No ask panics, whatever stands in it, in heaps of all sorts.
func TestAnyAsk(t *testing.T) {
	l, all, someKeys := append(refused()[1:], of567(), house(), house(), house()), append(wrong(), values()...), someKeys()
	for i := range 20000 {
		next := rule(uint32(i))
		h := l[next(len(l))]
		v := func() api.Value { return all[next(len(all))] }
		k := someKeys[next(len(someKeys))]
		d := api.Desc{Has: uint8(next(64)), Value: v(), Get: v(), Set: v()}
		if next(2) == 0 {
			d = api.Desc{Has: 1, Value: number(float64(next(12)))}
		}
		hold(t, h, api.Ask{Method: uint8(next(15)), Object: next(houseSize+4) - 2, Key: k, Desc: d, Value: v(), Receiver: v()})
	}
}

// rule makes numbers below n by a short rule, the same each time.
func rule(seed uint32) func(n int) int {
	return func(n int) int {
		seed = seed*1664525 + 1013904223
		return int(seed>>8) % n
	}
}
