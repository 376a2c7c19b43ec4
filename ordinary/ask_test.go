package ordinary_test

import (
	"math"
	"testing"

	"bailiff/api"
	"bailiff/ordinary"
)

// P12.1

// All methods, the eight and the others, asked of all objects, those of the wrong kinds and those that are not there.
func TestWhichAsksMayBe(t *testing.T) {
	h := house()
	for m := range 256 {
		a := api.Ask{Method: uint8(m), Key: of("a"), Desc: usual(number(1)), Value: null, Receiver: thing(0)}
		for n := -2; n < houseSize+2; n++ {
			a.Object = n
			hold(t, h, a)
		}
		for _, n := range []int{math.MinInt, math.MaxInt, 1 << 32, -1 << 32} {
			a.Object = n
			refuse(t, h, a, api.ErrArg)
		}
		a.Object = 0
		refuse(t, api.Heap{}, a, api.ErrArg)
		for _, n := range others() {
			a.Object = n
			refuse(t, h, a, api.ErrArg)
		}
		if m == 0 || m > 11 || 7 <= m && m <= 9 {
			for n := range houseSize {
				a.Object = n
				refuse(t, h, a, api.ErrArg)
			}
		}
	}
}

// eight are asks of each of the methods that may be asked of the objects.
func eight(n int) []api.Ask {
	return []api.Ask{getProto(n), setProto(n, null), extensible(n), prevent(n), get(n, of("a")), define(n, of("a"), api.Desc{Has: 16}), erase(n, of("a")), keys(n)}
}

// What a method does not have counts for nothing, whatever stands there.
func TestWhatIsNotOfTheMethod(t *testing.T) {
	junk := api.Value{Kind: 99, Num: minus, Str: long(5000), Ref: -7}
	for _, n := range plains() {
		for _, a := range eight(n) {
			h := house()
			want, out, e := again(h, a)
			if e != api.OK {
				t.Fatal(showAsk(a))
			}
			if a.Method < 5 || a.Method == 11 {
				a.Key = api.Key{Str: long(5000), Sym: -3}
			}
			if a.Method != 6 {
				a.Desc = api.Desc{Has: 255, Value: junk, Get: junk, Set: junk, Writable: true, Enumerable: true, Configurable: true}
			}
			if a.Method != 2 {
				a.Value = junk
			}
			a.Receiver, a.Args = junk, make([]api.Value, 100)
			holdDo(t, h, a, want, out, api.OK)
			a.Desc.Has = 3
			if a.Method != 6 {
				holdDo(t, h, a, want, out, api.OK)
			}
		}
	}
}

// wrong are values that may not be in house.
func wrong() []api.Value {
	l := []api.Value{{Kind: 9}, {Kind: 255}, number(0.5), number(minus), number(1 << 53), number(math.Inf(-1)), text(long(4097)), {Kind: api.Null, Num: 1}, {Kind: api.Null, Num: minus}, {Kind: api.Null, Str: "a"}, {Kind: api.Null, Ref: 1}, {Num: minus}, {Ref: 1}, {Kind: api.Boolean, Num: 2}, {Kind: api.Symbol, Ref: -1}, {Kind: api.Number, Ref: 1}, {Kind: api.Number, Str: "1"}, {Kind: api.Thing, Num: 1}, {Kind: api.Thing, Str: "a"}, {Kind: api.Maker, Ref: aFunction, Num: minus}}
	for _, n := range []int{-1, houseSize, houseSize + 1, math.MinInt, math.MaxInt} {
		l = append(l, thing(n), callable(n), maker(n))
	}
	for _, v := range values() { // the number of one, but not what it can do
		for k := api.Thing; k <= api.Maker; k++ {
			if k != v.Kind {
				l = append(l, api.Value{Kind: k, Ref: v.Ref})
			}
		}
	}
	return l
}

func TestWrongValues(t *testing.T) {
	h := house()
	for _, n := range plains() {
		for _, v := range wrong() {
			refuse(t, h, setProto(n, v), api.ErrHeap)
			for _, d := range []api.Desc{{Has: 1, Value: v}, {Has: 4, Get: v}, {Has: 8, Set: v}, usual(v), both(v, callable(aFunc)), both(undefined, v)} {
				for _, k := range []api.Key{of("a"), of("q")} {
					if _, _, e := hold(t, h, define(n, k, d)); e != api.ErrDesc && e != api.ErrHeap {
						t.Error(n, showDesc(d), int(e))
					}
				}
			}
		}
		for _, v := range []api.Value{undefined, {Kind: api.Boolean, Num: 1}, number(0), text(""), {Kind: api.Symbol}} {
			refuse(t, h, setProto(n, v), api.ErrHeap)
			hold(t, h, define(n, of("a"), usual(v)))
			hold(t, h, define(n, of("q"), usual(v)))
		}
		for _, v := range values() {
			hold(t, h, define(n, of("q"), usual(v)))
			hold(t, h, define(n, of("q"), both(v, undefined)))
			hold(t, h, define(n, of("q"), both(undefined, v)))
		}
	}
}

// What could be a descriptor of itself, but names what this heap does not have: ErrHeap, and not ErrDesc.
func TestValuesOfOtherHeaps(t *testing.T) {
	h := house()
	for _, v := range []api.Value{maker(aPlain), maker(houseSize), callable(aFunction), callable(aPlain), maker(aFunc), callable(houseSize)} {
		for _, d := range []api.Desc{{Has: 1, Value: v}, {Has: 4, Get: v}, {Has: 8, Set: v}, usual(v), both(v, undefined), both(undefined, v), both(maker(aFunction), v)} {
			refuse(t, h, define(aPlain, of("a"), d), api.ErrHeap)
			refuse(t, h, define(aClosed, of("q"), d), api.ErrHeap)
		}
	}
	for _, d := range []api.Desc{{Has: 1, Get: api.Value{Num: minus}}, {Has: 1, Set: api.Value{Num: minus}}, {Set: api.Value{Num: minus}}} {
		refuse(t, h, define(aPlain, of("a"), d), api.ErrHeap) // a minus nought is like 0 to chapter 9, but no value has it
	}
}

func TestWrongDescs(t *testing.T) {
	h := house()
	for has := range 256 {
		for _, d := range []api.Desc{{Has: uint8(has)}, {Has: uint8(has), Value: number(1)}, {Has: uint8(has), Get: maker(aFunction)}, {Has: uint8(has), Set: number(1)}, {Has: uint8(has), Writable: true}, {Has: uint8(has), Enumerable: true}, {Has: uint8(has), Configurable: true}} {
			hold(t, h, define(aPlain, of("a"), d))
			hold(t, h, define(aPlain, of("q"), d))
		}
		if has >= 64 || has&3 != 0 && has&12 != 0 {
			refuse(t, h, define(aPlain, of("a"), api.Desc{Has: uint8(has)}), api.ErrDesc)
		}
	}
}

// The errors in their order: what comes first is told, whatever is wrong behind it.
func TestErrorsInTheirOrder(t *testing.T) {
	h := house()
	badKey, badDesc, badValue := api.Key{Sym: -1}, api.Desc{Has: 5}, usual(thing(99))
	for _, n := range append(others(), -1, houseSize) {
		for _, a := range eight(n) {
			a.Key, a.Desc, a.Value = badKey, badDesc, undefined
			refuse(t, h, a, api.ErrArg)
		}
	}
	for _, m := range []uint8{0, 7, 8, 9, 12, 13, 14} {
		refuse(t, h, api.Ask{Method: m, Object: -1, Key: badKey}, api.ErrArg)
		refuse(t, h, api.Ask{Method: m, Object: 0, Key: badKey, Desc: badDesc}, api.ErrArg)
	}
	refuse(t, h, define(0, badKey, badDesc), api.ErrHeap)
	refuse(t, h, define(0, badKey, badValue), api.ErrHeap)
	refuse(t, h, define(0, of("a"), api.Desc{Has: 5, Value: thing(99)}), api.ErrDesc)
	refuse(t, h, define(0, of("a"), api.Desc{Has: 1, Value: thing(-1)}), api.ErrDesc) // it may not be in any heap
	refuse(t, h, define(0, of("a"), badValue), api.ErrHeap)
}

// Check's error comes first in all calls, and beside it stands nothing.
func TestCheckComesFirst(t *testing.T) {
	for _, h := range refused() {
		for _, n := range []int{0, 1, -1, len(h.Objects)} {
			for _, a := range append(eight(n), api.Ask{Method: 0, Object: n}, define(n, of("a"), api.Desc{Has: 5}), define(n, of("a"), usual(thing(99)))) {
				refuse(t, h, a, api.ErrHeap)
			}
			holdLoops(t, h, n, null, false, api.ErrHeap)
			holdLoops(t, h, n, undefined, false, api.ErrHeap)
			holdOwn(t, h, n, of("a"), api.Desc{}, false, api.ErrHeap)
			holdOwn(t, h, n, api.Key{Sym: -1}, api.Desc{}, false, api.ErrHeap)
			holdKeys(t, h, n, nil, api.ErrHeap)
		}
	}
}

// No ask panics, whatever stands in it, in heaps of all sorts.
func TestAnyAsk(t *testing.T) {
	l, all, someKeys := append(refused()[1:], two(), house(), house(), house()), append(wrong(), values()...), someKeys()
	for i := range 20000 {
		next := rule(uint32(i))
		h := l[next(len(l))]
		v := func() api.Value { return all[next(len(all))] }
		k := someKeys[next(len(someKeys))]
		d := api.Desc{Has: uint8(next(64)), Value: v(), Get: v(), Set: v()}
		a := api.Ask{Method: uint8(next(15)), Object: next(20) - 2, Key: k, Desc: d, Value: v(), Receiver: v()}
		want, out, e := again(h, a)
		holdDo(t, h, a, want, out, e)
		ordinary.Loops(h, a.Object, v())
	}
}

// rule makes numbers below n by a short rule, the same each time.
func rule(seed uint32) func(n int) int {
	return func(n int) int {
		seed = seed*1664525 + 1013904223
		return int(seed>>8) % n
	}
}
