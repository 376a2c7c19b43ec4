package heap_test

import (
	"fmt"
	"math"
	"slices"
	"testing"

	"bailiff/api"
	"bailiff/heap"
)

// P11.1

func TestExamplesOfCheck(t *testing.T) {
	holdCheck(t, two(), true)
	holdCheck(t, api.Heap{}, true)
	holdCheck(t, heapOf([]api.Object{}...), true)
}

func holdCheck(t *testing.T, h api.Heap, may bool) {
	t.Helper()
	want := api.ErrHeap
	if may {
		want = api.OK
	}
	if e := heap.Check(h); e != want {
		t.Error(brief(h), int(e))
	}
}

func TestCheckOfEachKind(t *testing.T) {
	h := house()
	if len(h.Objects) != houseSize || !well(h) {
		t.Error("house")
	}
	holdCheck(t, h, true)
}

// A turn is what is changed of one object of house, and whether the heap may be then.
type turn struct {
	n      int
	change func(o *api.Object)
	may    bool
}

func holdTurns(t *testing.T, l []turn) {
	t.Helper()
	for i, c := range l {
		h := house()
		c.change(&h.Objects[c.n])
		if well(h) != c.may {
			t.Error("row", i, "as it is read again")
		}
		want := api.ErrHeap
		if c.may {
			want = api.OK
		}
		if e := heap.Check(h); e != want {
			t.Error("row", i, int(e))
		}
	}
}

// kinds are the numbers of house's objects: of those that are no proxies, and of its proxies.
func kinds() (others, proxies []int) {
	return []int{aPlain, aFunction, aFunc, aMaker, anArray, aBoxed, revoker, lateRevoker, aChild}, []int{ofThing, ofMaker, ofFunc, goneThing, goneFunc, goneMaker, ofProxies}
}

func TestCheckOfKinds(t *testing.T) {
	for n := range houseSize {
		for k := range 256 {
			h := house()
			h.Objects[n].Kind = uint8(k)
			holdCheck(t, h, well(h))
			if k == 0 || k > 6 {
				h = heapOf(plain(null))
				h.Objects[0].Kind = uint8(k)
				holdCheck(t, h, false)
			}
		}
	}
}

// What an object can do is its Kind's, and what others have of it tells that.
func TestCheckOfCallsAndMakes(t *testing.T) {
	all := []struct {
		o   api.Object
		may [4]bool // neither; Calls; Makes; both
	}{
		{plain(null), [4]bool{true, false, false, false}},
		{array(null, 0), [4]bool{true, false, false, false}},
		{boxed(null, "a"), [4]bool{true, false, false, false}},
		{function(null), [4]bool{false, false, false, true}},
		{native(null, false, undefined), [4]bool{false, true, false, true}},
		{revoked(false, false), [4]bool{true, true, false, true}},
		{proxy(thing(0), thing(0)), [4]bool{true, false, false, false}},
		{proxy(callable(1), thing(0)), [4]bool{false, true, false, false}},
		{proxy(maker(2), thing(0)), [4]bool{false, false, false, true}},
		{proxy(thing(3), thing(0)), [4]bool{true, false, false, false}},
		{proxy(callable(4), callable(1)), [4]bool{false, true, false, false}},
		{proxy(maker(5), maker(2)), [4]bool{false, false, false, true}},
	}
	ahead := []api.Object{plain(null), native(null, false, undefined), function(null), revoked(false, false), revoked(true, false), revoked(true, true)}
	for _, c := range all {
		for i, may := range c.may {
			c.o.Calls, c.o.Makes = i%2 == 1, i/2 == 1
			holdCheck(t, heapOf(append(slices.Clone(ahead), c.o)...), may)
			for k, v := range []api.Value{thing(6), callable(6), maker(6)} { // which of the three tells it
				of := plain(null, of("o"), usual(v))
				holdCheck(t, heapOf(append(slices.Clone(ahead), c.o, of)...), may && k == []int{0, 1, -1, 2}[i])
			}
		}
	}
}

func TestCheckOfProtos(t *testing.T) {
	others, proxies := kinds()
	var l []turn
	proto := func(n int, v api.Value, may bool) {
		l = append(l, turn{n, func(o *api.Object) { o.Proto = v }, may})
	}
	for _, n := range others {
		proto(n, null, true)
		proto(n, thing(goneThing), true)
		proto(n, callable(goneFunc), true)
		proto(n, maker(goneMaker), true)
		proto(n, thing(ofProxies), true)
		for _, v := range notProtos() {
			proto(n, v, false)
		}
	}
	for _, n := range proxies {
		proto(n, thing(aPlain), false)
		proto(n, callable(aFunc), false)
		proto(n, maker(aFunction), false)
		for _, v := range notProtos() {
			proto(n, v, false)
		}
	}
	proto(aPlain, thing(aPlain), false)
	proto(aPlain, thing(aBoxed), false)
	proto(aPlain, thing(anArray), false)
	holdTurns(t, l)
	holdCheck(t, heapOf(plain(thing(1)), plain(null)), true) // a prototype may come behind
}

// notProtos are values that are neither null nor objects of house.
func notProtos() []api.Value {
	l := []api.Value{undefined, {Kind: api.Boolean}, {Kind: api.Boolean, Num: 1}, number(0), number(1), number(nan), text(""), text("a"), {Kind: api.Symbol}, {Kind: api.Symbol, Ref: 1}}
	return append(l, notOfHouse()...)
}

// notOfHouse are values that may not be, or not in house.
func notOfHouse() []api.Value {
	l := []api.Value{
		callable(aPlain), maker(aPlain), thing(aFunction), callable(aFunction), thing(aFunc), maker(aFunc), callable(anArray), maker(aBoxed),
		callable(ofThing), maker(ofThing), thing(ofFunc), maker(ofFunc), thing(ofMaker), callable(ofMaker), callable(goneThing), maker(goneFunc), thing(goneFunc), callable(goneMaker), thing(goneMaker),
		thing(houseSize), callable(houseSize), maker(houseSize), thing(-1), callable(-1), maker(math.MinInt), thing(math.MaxInt), maker(math.MaxInt), thing(api.MaxObjects),
		{Kind: 9}, {Kind: 255}, {Kind: 9, Ref: aPlain}, number(0.5), number(minus), number(math.Inf(1)), number(api.MaxSafe + 1), text(long(api.MaxString + 1)), {Kind: api.Symbol, Ref: -1}, {Kind: api.Boolean, Num: 2},
		{Kind: api.Null, Ref: 1}, {Kind: api.Null, Str: "a"}, {Kind: api.Null, Num: 1}, {Kind: api.Null, Num: nan}, {Ref: 1}, {Str: "a"}, {Num: 1}, {Num: nan},
		{Kind: api.Thing, Num: 1}, {Kind: api.Thing, Str: "a"}, {Kind: api.Thing, Num: minus}, {Kind: api.Func, Ref: aFunc, Num: nan}, {Kind: api.Maker, Ref: aFunction, Str: "x"},
	}
	return append(l, api.Value{Num: minus}, api.Value{Kind: api.Null, Num: minus})
}

// ofHouse are values that may be in house.
func ofHouse() []api.Value {
	return []api.Value{
		undefined, null, {Kind: api.Boolean}, {Kind: api.Boolean, Num: 1}, number(0), number(nan), number(-api.MaxSafe), text(""), text(long(api.MaxString)), {Kind: api.Symbol}, {Kind: api.Symbol, Ref: 1 << 40}, {Kind: api.Symbol, Ref: math.MaxInt},
		thing(aPlain), maker(aFunction), callable(aFunc), maker(aMaker), thing(anArray), thing(aBoxed), thing(ofThing), maker(ofMaker), callable(ofFunc), thing(goneThing), callable(goneFunc), maker(goneMaker), callable(revoker), maker(lateRevoker), thing(ofProxies), thing(aChild),
	}
}

// Each value of each property of each object is looked at, also those that its descriptor does not have.
func TestCheckOfValues(t *testing.T) {
	others, _ := kinds()
	for _, n := range others {
		put := func(v api.Value, d any, may bool) {
			t.Helper()
			for _, k := range []api.Key{of("new"), symbol(4), of("1023")} {
				h := house()
				if h.Objects[n].Kind == api.Array && k == of("1023") {
					continue
				}
				h.Objects[n].Props = append(h.Objects[n].Props, props(k, d, of("z"), usual(number(1)))...)
				if well(h) != may {
					t.Error(n, showValue(v), "as it is read again")
				}
				holdCheck(t, h, may)
			}
		}
		for _, v := range ofHouse() {
			put(v, usual(v), true)
			doer := v.Kind == api.Undefined || v.Kind == api.Func || v.Kind == api.Maker
			put(v, both(v, undefined), doer)
			put(v, both(undefined, v), doer)
		}
		for _, v := range notOfHouse() {
			put(v, usual(v), false)
			put(v, both(v, undefined), false)
			put(v, both(undefined, v), false)
			for i := range 3 {
				put(v, besides(i, v), false)
			}
		}
	}
}

// besides is a descriptor with a value in a field that it does not have.
func besides(i int, v api.Value) any {
	d, a := data(number(1), true, true, true), access(undefined, undefined, true, true)
	switch i {
	case 0:
		d.Get = v
		return d
	case 1:
		d.Set = v
		return d
	}
	a.Value = v
	return a
}

// Props that may not be are refused, whatever table.Check tells of them.
func TestCheckOfProps(t *testing.T) {
	others, _ := kinds()
	for _, n := range others {
		room := api.MaxProps - len(house().Objects[n].Props)
		for _, c := range []struct {
			l   []api.Prop
			may bool
		}{
			{nil, true}, {these(room), true}, {these(room + 1), false}, {these(2 * api.MaxProps), false},
			{props(of("k"), usual(null), symbol(3), usual(null)), true},
			{props(of("k"), usual(null), of("k"), usual(null)), false},
			{props(of("k"), usual(null), symbol(3), usual(null), symbol(3), usual(null)), false},
			{props(of("k"), api.Desc{}), false}, {props(of("k"), api.Desc{Has: 1}), false}, {props(of("k"), api.Desc{Has: 63}), false},
			{props(api.Key{Str: "k", Sym: 1}, usual(null)), false}, {props(api.Key{Sym: -1}, usual(null)), false},
			{props(of(long(api.MaxString)), usual(null)), true}, {props(of(long(api.MaxString+1)), usual(null)), false},
			{props(of(""), stuck(1)), true}, {props(of("k"), access(undefined, undefined, false, false)), true},
		} {
			h := house()
			h.Objects[n].Props = append(h.Objects[n].Props, c.l...)
			holdCheck(t, h, c.may)
		}
	}
}

// A field that its Kind does not have is zero.
func TestCheckOfWhatIsNotTold(t *testing.T) {
	others, proxies := kinds()
	var l []turn
	for n := range houseSize {
		k := house().Objects[n].Kind
		l = append(l, turn{n, func(o *api.Object) { o.Text = "" }, true})
		l = append(l, turn{n, func(o *api.Object) { o.Text = "a" }, k == api.Boxed})
		for _, v := range []api.Value{null, number(0), text(""), {Kind: api.Boolean}, {Kind: api.Symbol}, thing(aPlain), callable(aFunc), maker(aFunction), thing(goneThing), {Num: minus}, {Ref: 1}, {Str: "a"}} {
			if k != api.Proxy {
				l = append(l, turn{n, func(o *api.Object) { o.Handler = v }, false})
			}
			if k != api.Proxy && k != api.Native {
				l = append(l, turn{n, func(o *api.Object) { o.Target = v }, false})
			}
		}
	}
	for _, n := range others {
		l = append(l, turn{n, func(o *api.Object) { o.Ext = !o.Ext }, true})
	}
	for _, n := range proxies {
		l = append(l, turn{n, func(o *api.Object) { o.Ext = true }, false})
		l = append(l, turn{n, func(o *api.Object) { o.Props = these(1) }, false})
		l = append(l, turn{n, func(o *api.Object) { o.Props = props(symbol(0), stuck(1)) }, false})
		l = append(l, turn{n, func(o *api.Object) { o.Props = []api.Prop{} }, true})
	}
	holdTurns(t, l)
}

func TestCheckOfArrays(t *testing.T) {
	good := func(l ...any) { t.Helper(); holdCheck(t, heapOf(arrayOf(l...), function(null)), true) }
	bad := func(l ...any) { t.Helper(); holdCheck(t, heapOf(arrayOf(l...), function(null)), false) }
	length := of("length")
	for _, x := range []float64{0, 1, 2, 7, api.MaxLength - 1, api.MaxLength} {
		good(length, hidden(x))
		good(length, stuck(x))
		bad(length, data(number(x), true, true, false))
		bad(length, data(number(x), true, false, true))
		bad(length, data(number(x), false, true, true))
	}
	for _, v := range []api.Value{number(-1), number(api.MaxLength + 1), number(api.MaxSafe), number(-api.MaxSafe), number(nan), number(0.5), number(minus), undefined, null, {Kind: api.Boolean}, {Kind: api.Boolean, Num: 1}, text("0"), text(""), {Kind: api.Symbol}, thing(0), maker(1)} {
		bad(length, data(v, true, false, false))
		bad(length, data(v, false, false, false))
	}
	bad(length, access(undefined, undefined, false, false))
	bad(length, access(maker(1), undefined, false, false))
	bad(length, api.Desc{Has: 1, Value: number(0)})
	bad()
	bad(of("a"), hidden(0))
	bad(of("a"), hidden(0), length, hidden(0))
	bad(of("0"), hidden(1), length, hidden(1))
	bad(symbol(0), hidden(1), length, hidden(1))
	bad(of("Length"), hidden(1))
	bad(of("length "), hidden(1))
	bad(length, hidden(1), length, hidden(1))
	for _, n := range []int{0, 1, 5, 1022, 1023} {
		good(length, hidden(float64(n+1)), index(n), usual(null))
		good(length, hidden(api.MaxLength), of("a"), usual(null), index(n), both(maker(1), undefined), symbol(0), usual(null))
		bad(length, hidden(float64(n)), index(n), usual(null))
		bad(length, hidden(float64(n)), of("a"), usual(null), symbol(0), usual(null), index(n), stuck(1), of("b"), usual(null))
		bad(length, hidden(0), index(n), usual(null))
	}
	good(length, hidden(3), of("2"), usual(null), of("0"), usual(null)) // in any order, with gaps
	for _, s := range []string{"1024", "01", "-1", "", "1.5", "a", " 1", "1e3", "NaN"} {
		good(length, hidden(0), of(s), usual(null))
	}
	good(length, hidden(0), symbol(1), usual(null))
}

func arrayOf(l ...any) api.Object {
	return api.Object{Kind: api.Array, Proto: null, Props: props(l...)}
}

func TestCheckOfBoxed(t *testing.T) {
	hold := func(may bool, s string, l ...any) {
		t.Helper()
		holdCheck(t, heapOf(boxed(null, s, l...), function(null)), may)
	}
	for _, s := range []string{"", "a", "\x00\xff", "length", long(api.MaxString - 1), long(api.MaxString)} {
		hold(true, s)
		hold(true, s, of("a"), usual(null), symbol(0), usual(null), of("lengths"), usual(null))
		for _, d := range []any{hidden(1), stuck(1), usual(null), both(undefined, undefined)} {
			hold(false, s, of("length"), d)
			hold(false, s, of("a"), usual(null), of("length"), d, of("b"), usual(null))
		}
		for _, n := range []int{0, 1, 2, 5, 6, 1022, 1023} {
			hold(n >= len(s), s, index(n), usual(null))
			hold(n >= len(s), s, of("a"), usual(null), symbol(0), usual(null), index(n), both(maker(1), undefined), of("b"), usual(null))
		}
		for _, k := range []string{"01", "-1", "", "1024", "4095", "4096", " 0", "NaN"} {
			hold(true, s, of(k), usual(null))
		}
	}
	hold(true, "ab", of("3"), usual(null), of("2"), usual(null))
	hold(false, "ab", of("3"), usual(null), of("1"), usual(null))
	hold(true, long(1023), of("1023"), usual(null))
	hold(false, long(1024), of("1023"), usual(null))
	hold(false, long(api.MaxString+1))
	hold(false, long(api.MaxText))
}

func TestCheckOfNatives(t *testing.T) {
	var l []turn
	for _, n := range []int{aFunc, aMaker, revoker, lateRevoker} {
		for i, o := range house().Objects {
			for k, v := range []api.Value{thing(i), callable(i), maker(i)} {
				tells := k == 0 && !o.Calls || k == 1 && o.Calls && !o.Makes || k == 2 && o.Makes
				l = append(l, turn{n, func(o *api.Object) { o.Target = v }, tells && i < n && o.Kind == api.Proxy})
			}
		}
		l = append(l, turn{n, func(o *api.Object) { o.Target = undefined }, true})
		for _, v := range append(notProtos(), null) {
			l = append(l, turn{n, func(o *api.Object) { o.Target = v }, v == undefined && !math.Signbit(v.Num)})
		}
	}
	holdTurns(t, l)
	holdCheck(t, heapOf(native(null, false, undefined)), true)
	holdCheck(t, heapOf(native(null, false, callable(0))), false) // itself
	holdCheck(t, heapOf(revoked(false, false), native(null, true, thing(0))), true)
	holdCheck(t, heapOf(native(null, true, thing(1)), revoked(false, false)), false)
}

func TestCheckOfProxies(t *testing.T) {
	_, proxies := kinds()
	var l []turn
	for _, n := range proxies {
		for i, o := range house().Objects {
			tells := []api.Value{thing(i), callable(i), maker(i)}
			var v api.Value
			switch {
			case o.Makes:
				v = tells[2]
			case o.Calls:
				v = tells[1]
			default:
				v = tells[0]
			}
			p := house().Objects[n]
			alike := o.Calls == p.Calls && o.Makes == p.Makes
			l = append(l, turn{n, func(o *api.Object) { o.Target, o.Handler = v, thing(aPlain) }, i < n && alike})
			l = append(l, turn{n, func(o *api.Object) { o.Target, o.Handler = v, v }, i < n && alike})
			l = append(l, turn{n, func(o *api.Object) { o.Handler = v }, i < n && p.Target != null})
			l = append(l, turn{n, func(o *api.Object) { o.Target = v }, i < n && alike && p.Handler != null})
			for _, w := range tells {
				if w != v {
					l = append(l, turn{n, func(o *api.Object) { o.Target = w }, false}, turn{n, func(o *api.Object) { o.Handler = w }, false})
				}
			}
		}
		l = append(l, turn{n, func(o *api.Object) { o.Target, o.Handler = null, null }, true})
		l = append(l, turn{n, func(o *api.Object) { o.Target, o.Handler = undefined, undefined }, false})
		l = append(l, turn{n, func(o *api.Object) { o.Target, o.Handler = null, undefined }, false})
		l = append(l, turn{n, func(o *api.Object) { o.Target, o.Handler = undefined, null }, false})
		l = append(l, turn{n, func(o *api.Object) { o.Target, o.Handler = null, thing(aPlain) }, false})
		l = append(l, turn{n, func(o *api.Object) { o.Target, o.Handler = thing(aPlain), null }, false})
		for _, v := range notProtos() {
			l = append(l, turn{n, func(o *api.Object) { o.Target = v }, false}, turn{n, func(o *api.Object) { o.Handler = v }, false})
			l = append(l, turn{n, func(o *api.Object) { o.Target, o.Handler = v, v }, false})
		}
	}
	holdTurns(t, l)
}

// Every way in which four objects may have one another as prototypes.
func TestCheckOfLoops(t *testing.T) {
	count := 0
	for i := range 5 * 5 * 5 * 5 {
		h := many(4)
		for n := range 4 {
			if p := i % 5; p < 4 {
				h.Objects[n].Proto = thing(p)
			}
			i /= 5
		}
		holdCheck(t, h, well(h))
		if well(h) {
			count++
		}
	}
	if count != 125 { // (4+1)^(4-1) forests of roots
		t.Error(count)
	}
}

func TestCheckOfLongLoops(t *testing.T) {
	for _, size := range []int{2, 3, 1000, api.MaxObjects} {
		for _, step := range []int{1, -1} {
			h := many(size)
			for n := range size {
				if to := n + step; to >= 0 && to < size {
					h.Objects[n].Proto = thing(to)
				}
			}
			holdCheck(t, h, true)
			first, last := 0, size-1
			if step == 1 {
				first, last = last, first
			}
			for _, to := range []int{last, first, size / 2} {
				h.Objects[first].Proto = thing(to)
				holdCheck(t, h, false)
			}
		}
	}
	star := many(api.MaxObjects)
	for n := 1; n < api.MaxObjects; n++ {
		star.Objects[n].Proto = thing(0)
	}
	holdCheck(t, star, true)
}

// Through a proxy one does not go on: it has no prototype of its own.
func TestCheckOfNoLoops(t *testing.T) {
	holdCheck(t, heapOf(plain(thing(1)), plain(null)), true)
	holdCheck(t, heapOf(plain(thing(2)), plain(null), proxy(thing(0), thing(1))), true)
	holdCheck(t, heapOf(plain(null, of("o"), usual(thing(0))), plain(null)), true)
	holdCheck(t, heapOf(function(maker(0))), false)
	holdCheck(t, heapOf(plain(maker(1)), function(thing(0))), false)
	holdCheck(t, heapOf(plain(null), plain(thing(3)), plain(thing(1)), plain(thing(2)), plain(thing(1))), false)
}

func TestCheckOfMany(t *testing.T) {
	holdCheck(t, many(api.MaxObjects-1), true)
	holdCheck(t, many(api.MaxObjects), true)
	holdCheck(t, many(api.MaxObjects+1), false)
	holdCheck(t, many(3*api.MaxObjects), false)
	h := many(api.MaxObjects)
	h.Objects[api.MaxObjects-1].Proto = thing(0)
	h.Objects[0].Props = props(of("o"), usual(thing(api.MaxObjects-1)))
	holdCheck(t, h, true)
	h.Objects[0].Props = props(of("o"), usual(thing(api.MaxObjects)))
	holdCheck(t, h, false)
	for _, n := range []int{0, 1, 2048, api.MaxObjects - 1} { // each one is looked at
		h = many(api.MaxObjects)
		h.Objects[n].Makes = true
		holdCheck(t, h, false)
	}
}

// some are objects of all kinds, of which many fit into heaps of three.
func some() []api.Object {
	l := []api.Object{
		{}, {Kind: 7, Proto: null}, {Kind: api.Plain},
		plain(null), plain(thing(0)), plain(thing(1)), plain(thing(2)), plain(callable(1)), plain(maker(0)), plain(thing(3)),
		plain(null, of("a"), usual(thing(1))), plain(null, of("a"), usual(maker(2))), plain(null, of("a"), both(callable(0), undefined)), plain(null, of("a"), both(undefined, maker(1))), plain(null, of("a"), api.Desc{Has: 1}),
		array(null, 0), array(thing(1), 1, of("0"), usual(maker(0))), array(null, 0, of("0"), usual(null)), arrayOf(),
		boxed(null, ""), boxed(thing(0), "a", of("1"), usual(callable(2))), boxed(null, "a", of("0"), usual(null)), boxed(null, "", of("length"), usual(null)),
		function(null), function(maker(1)), function(thing(0), of("a"), usual(maker(2))),
		native(null, false, undefined), native(null, true, undefined), native(callable(0), false, thing(0)), native(null, true, maker(1)), native(null, true, callable(0)), native(null, false, null),
		revoked(false, false), revoked(true, false), revoked(true, true), revoked(false, true),
		proxy(thing(0), thing(0)), proxy(thing(0), maker(1)), proxy(thing(1), thing(0)), proxy(callable(0), callable(0)), proxy(callable(1), thing(0)), proxy(maker(0), thing(1)), proxy(maker(1), maker(0)), proxy(thing(0), null), proxy(null, thing(0)),
	}
	odd := proxy(thing(0), thing(0))
	odd.Calls = true
	return append(l, odd)
}

// All heaps of up to three of these are held against the second reading.
func TestCheckOfAllSmall(t *testing.T) {
	l := some()
	counts := map[string]int{}
	hold := func(h api.Heap) {
		may := well(h)
		counts[fmt.Sprint(len(h.Objects), may)]++
		holdCheck(t, h, may)
	}
	for _, a := range l {
		hold(heapOf(a))
		for _, b := range l {
			hold(heapOf(a, b))
			for _, c := range l {
				hold(heapOf(a, b, c))
			}
		}
	}
	if counts["1 true"] < 8 || counts["2 true"] < 100 || counts["3 true"] < 2000 || counts["3 false"] < 50000 {
		t.Error(counts)
	}
}
