package table_test

import (
	"fmt"
	"math"
	"slices"
	"strings"

	"bailiff/api"
)

var (
	nan   = math.NaN()
	minus = math.Copysign(0, -1)
)

func of(s string) api.Key            { return api.Key{Str: s} }
func symbol(n int) api.Key           { return api.Key{Sym: n + 1} }
func both(s string, sym int) api.Key { return api.Key{Str: s, Sym: sym} }

func number(x float64) api.Value          { return api.Value{Kind: api.Number, Num: x} }
func text(s string) api.Value             { return api.Value{Kind: api.String, Str: s} }
func callable(n int) api.Value            { return api.Value{Kind: api.Func, Ref: n} }
func maker(n int) api.Value               { return api.Value{Kind: api.Maker, Ref: n} }
func long(n int) string                   { return strings.Repeat("x", n) }
func bools() []bool                       { return []bool{false, true} }
func numbered(n int) api.Key              { return of(fmt.Sprint("k", n)) }
func usual(x float64) api.Desc            { return data(number(x), true, true, true) }
func prop(k api.Key, d api.Desc) api.Prop { return api.Prop{Key: k, Desc: d} }

// data and access are complete descriptors, of the bits that the document tells.
func data(v api.Value, w, e, c bool) api.Desc {
	return api.Desc{Has: 51, Value: v, Writable: w, Enumerable: e, Configurable: c}
}

func access(g, s api.Value, e, c bool) api.Desc {
	return api.Desc{Has: 60, Get: g, Set: s, Enumerable: e, Configurable: c}
}

// those are properties of these keys, each with a value of its own.
func those(keys ...api.Key) []api.Prop {
	var l []api.Prop
	for i, k := range keys {
		l = append(l, prop(k, usual(float64(100+i))))
	}
	return l
}

// full are so many properties.
func full(n int) []api.Prop {
	var keys []api.Key
	for i := range n {
		keys = append(keys, numbered(i))
	}
	return those(keys...)
}

// goodKeys may be, no two of them the same.
func goodKeys() []api.Key {
	l := []api.Key{symbol(0), symbol(1), symbol(2), symbol(math.MaxInt - 1)}
	for _, s := range []string{"", "0", "1", "2", "10", "1023", "1024", "01", "-1", "a", "A", "b", "ab", "symbol 0", "length", "\xff", long(api.MaxString - 1), long(api.MaxString)} {
		l = append(l, of(s))
	}
	return l
}

func badKeys() []api.Key {
	return []api.Key{both("a", 1), both("a", math.MaxInt), both("", -1), both("a", -1), both("0", math.MinInt), of(long(api.MaxString + 1)), both(long(api.MaxString+1), 1), of(long(api.MaxText + 1))}
}

// goodDescs are complete. A minus nought is equal to 0, and so may stand in the Get or Set that a data one does not have.
func goodDescs() []api.Desc {
	l := []api.Desc{usual(nan), data(api.Value{Kind: api.Boolean, Num: minus}, true, false, true)}
	odd := usual(1)
	odd.Get.Num, odd.Set.Num = minus, minus
	l = append(l, odd)
	for _, e := range bools() {
		for _, c := range bools() {
			for _, w := range bools() {
				l = append(l, data(api.Value{}, w, e, c), data(text(long(api.MaxString)), w, e, c), data(maker(3), w, e, c))
			}
			l = append(l, access(api.Value{}, api.Value{}, e, c), access(callable(3), api.Value{}, e, c), access(callable(3), maker(4), e, c))
		}
	}
	return l
}

// parts may be, but lack a field of their kind, or more: those of each Has that is told, with and without something in them.
func parts() []api.Desc {
	var l []api.Desc
	for n := range uint8(64) {
		if n&3 != 0 && n&12 != 0 || n == 51 || n == 60 {
			continue
		}
		d := api.Desc{Has: n}
		l = append(l, d)
		if n&1 != 0 {
			d.Value = number(1)
		}
		if n&4 != 0 {
			d.Get = callable(3)
		}
		if n&8 != 0 {
			d.Set = maker(4)
		}
		d.Writable, d.Enumerable, d.Configurable = n&2 != 0, n&16 != 0, n&32 != 0
		l = append(l, d)
	}
	return l
}

// badDescs are no descriptors of properties: they lack something, or may not be.
func badDescs() []api.Desc {
	l := parts()
	for _, has := range []uint8{63, 55, 59, 61, 62, 64, 128, 51 | 64, 51 | 128, 60 | 64, 60 | 128, 255} {
		l = append(l, api.Desc{Has: has})
	}
	for _, v := range []api.Value{number(0.5), number(minus), number(api.MaxSafe + 1), text(long(api.MaxString + 1)), {Kind: 9}, {Kind: api.Symbol, Ref: -1}, {Kind: api.Null, Ref: 1}, {Kind: api.Boolean, Num: 2}} {
		l = append(l, data(v, true, true, true), access(v, api.Value{}, true, true), access(api.Value{}, v, true, true))
	}
	for _, v := range []api.Value{number(1), text("f"), {Kind: api.Null}, {Kind: api.Thing, Ref: 3}} {
		l = append(l, access(v, api.Value{}, false, false), access(callable(3), v, false, false))
	}
	for _, v := range []api.Value{number(1), callable(3), {Ref: 1}, {Num: nan}, {Str: "x"}} {
		d, a := usual(1), access(callable(3), callable(3), true, true)
		d.Get, a.Value = v, v
		l = append(l, d, a)
		d.Get, d.Set = api.Value{}, v
		l = append(l, d)
	}
	a := access(callable(3), callable(3), true, true)
	a.Writable = true
	b := access(callable(3), callable(3), true, true)
	b.Value.Num = minus
	return append(l, a, b)
}

// A list is some properties, and the error that Check has of them.
type list struct {
	l []api.Prop
	e api.Errno
}

// faulty are lists of which each has one fault or more, the first one told.
func faulty() []list {
	key, desc, twice := prop(both("b", 1), usual(1)), prop(of("b"), api.Desc{Has: 1}), prop(of("a"), usual(2))
	worst := prop(both("b", 1), api.Desc{Has: 1})
	most := full(api.MaxProps + 1)
	all := []list{
		{most, api.ErrMany}, {append([]api.Prop{worst}, most...), api.ErrMany}, {slices.Repeat(those(of("a")), api.MaxProps+1), api.ErrMany}, {slices.Repeat([]api.Prop{worst}, 3000), api.ErrMany},
		{append(full(api.MaxProps-1), worst), api.ErrHeap}, {append(full(api.MaxProps-1), desc), api.ErrDesc}, {append(full(api.MaxProps-1), prop(numbered(0), usual(1))), api.ErrTable}, {slices.Repeat(those(of("a")), api.MaxProps), api.ErrTable},
		{make([]api.Prop, 1), api.ErrDesc}, {[]api.Prop{worst}, api.ErrHeap},
	}
	for _, ahead := range [][]api.Prop{those(of("a")), those(of("a"), symbol(0)), those(of("1"), of("a"), of("0"))} {
		for _, behind := range [][]api.Prop{nil, those(of("c")), {key}, {desc}, {twice}, {worst}} {
			for _, c := range []list{{[]api.Prop{key}, api.ErrHeap}, {[]api.Prop{desc}, api.ErrDesc}, {[]api.Prop{twice}, api.ErrTable}, {[]api.Prop{worst}, api.ErrHeap}, {[]api.Prop{prop(of("a"), api.Desc{})}, api.ErrDesc}} {
				all = append(all, list{slices.Concat(ahead, c.l, behind), c.e})
			}
		}
	}
	return all
}

// lists are all of at most so many of these keys, none of them twice in one.
func lists(keys []api.Key, most int) [][]api.Prop {
	var all [][]api.Prop
	var on func(l []api.Key)
	on = func(l []api.Key) {
		all = append(all, those(l...))
		if len(l) == most {
			return
		}
		for _, k := range keys {
			if !slices.Contains(l, k) {
				on(append(l[:len(l):len(l)], k))
			}
		}
	}
	on(nil)
	return all
}

// equal holds two lists against each other to the bit, but that all that is no number is alike.
func equal(a, b []api.Prop) bool { return slices.EqualFunc(a, b, equalProp) }

func equalProp(a, b api.Prop) bool { return a.Key == b.Key && equalDesc(a.Desc, b.Desc) }

func equalDesc(a, b api.Desc) bool {
	va, vb := a.Value, b.Value
	if math.IsNaN(va.Num) && math.IsNaN(vb.Num) {
		va.Num, vb.Num = 0, 0
	}
	a.Value, b.Value = api.Value{}, api.Value{}
	return a == b && va == vb && signs(va, a) == signs(vb, b)
}

func signs(v api.Value, d api.Desc) [3]bool {
	return [3]bool{math.Signbit(v.Num), math.Signbit(d.Get.Num), math.Signbit(d.Set.Num)}
}

// show is short where a string is long, and where a list is.
func show(l []api.Prop) string {
	if len(l) > 12 {
		return fmt.Sprint(len(l), " properties")
	}
	var all []string
	for _, p := range l {
		all = append(all, showKey(p.Key)+": "+showDesc(p.Desc))
	}
	return "[" + strings.Join(all, ", ") + "]"
}

func showKey(k api.Key) string {
	if len(k.Str) > 40 {
		return fmt.Sprintf("{of %d bytes %d}", len(k.Str), k.Sym)
	}
	return fmt.Sprintf("{%q %d}", k.Str, k.Sym)
}

func showDesc(d api.Desc) string {
	if len(d.Value.Str) > 40 {
		d.Value.Str = fmt.Sprintf("of %d bytes", len(d.Value.Str))
	}
	return fmt.Sprint(d)
}

func showKeys(l []api.Key) string {
	var all []string
	for _, k := range l {
		all = append(all, showKey(k))
	}
	return strings.Join(all, " ")
}
