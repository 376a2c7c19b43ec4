package post_test

import (
	"fmt"
	"math"
	"slices"
	"strings"

	"bailiff/api"
	"bailiff/post"
)

const most = float64(api.MaxSafe)

var (
	nan   = math.NaN()
	inf   = math.Inf(1)
	minus = math.Copysign(0, -1)
)

func boolean(x float64) api.Value { return api.Value{Kind: api.Boolean, Num: x} }
func number(x float64) api.Value  { return api.Value{Kind: api.Number, Num: x} }
func text(s string) api.Value     { return api.Value{Kind: api.String, Str: s} }
func symbol(n int) api.Value      { return api.Value{Kind: api.Symbol, Ref: n} }
func thing(n int) api.Value       { return api.Value{Kind: api.Thing, Ref: n} }
func callable(n int) api.Value    { return api.Value{Kind: api.Func, Ref: n} }
func maker(n int) api.Value       { return api.Value{Kind: api.Maker, Ref: n} }

var undefined, null = api.Value{Kind: api.Undefined}, api.Value{Kind: api.Null}

func long(n int) string { return strings.Repeat("x", n) }

// A part is one field of a descriptor that is made.
type part func(d *api.Desc)

func val(v api.Value) part {
	return func(d *api.Desc) { d.Has |= 1; d.Value = v }
}
func write(b bool) part {
	return func(d *api.Desc) { d.Has |= 2; d.Writable = b }
}
func get(v api.Value) part {
	return func(d *api.Desc) { d.Has |= 4; d.Get = v }
}
func set(v api.Value) part {
	return func(d *api.Desc) { d.Has |= 8; d.Set = v }
}
func enum(b bool) part {
	return func(d *api.Desc) { d.Has |= 16; d.Enumerable = b }
}
func conf(b bool) part {
	return func(d *api.Desc) { d.Has |= 32; d.Configurable = b }
}

// of is a descriptor of these fields.
func of(parts ...part) api.Desc {
	d := api.Desc{}
	for _, p := range parts {
		p(&d)
	}
	return d
}

// dataOf and accessOf are complete; so are fixed, which can't change at all, and loose, which can.
func dataOf(v api.Value, w, e, c bool) api.Desc   { return of(val(v), write(w), enum(e), conf(c)) }
func accessOf(g, s api.Value, e, c bool) api.Desc { return of(get(g), set(s), enum(e), conf(c)) }
func fixed(v api.Value) api.Desc                  { return dataOf(v, false, false, false) }
func loose(v api.Value) api.Desc                  { return dataOf(v, true, false, true) }

func bools() []bool { return []bool{false, true} }

// values are of all kinds, some of them the same as others.
func values() []api.Value {
	return []api.Value{undefined, null, boolean(0), boolean(1), number(0), number(1), number(nan), text(""), text("1"), symbol(3), symbol(4), thing(3), thing(4), callable(3), callable(5), maker(3), maker(4)}
}

// parents may be prototypes.
func parents() []api.Value {
	return []api.Value{null, thing(0), thing(3), callable(3), maker(3), maker(4)}
}

// choices are no field, or one of these.
func choices[T any](l []T, field func(x T) part) []part {
	out := []part{func(*api.Desc) {}}
	for _, x := range l {
		out = append(out, field(x))
	}
	return out
}

// well are descriptors of all sorts that may be, no two of them alike.
func well() []api.Desc {
	var l []api.Desc
	put := []api.Value{undefined, maker(3), thing(3), thing(4), number(nan), number(1)}
	doers := []api.Value{undefined, callable(3), maker(3), callable(4)}
	for _, e := range choices(bools(), enum) {
		for _, c := range choices(bools(), conf) {
			for _, v := range choices(put, val) {
				for _, w := range choices(bools(), write) {
					l = append(l, of(e, c, v, w))
				}
			}
			for _, g := range choices(doers, get) {
				for _, s := range choices(doers, set) {
					if d := of(e, c, g, s); d.Has&12 != 0 {
						l = append(l, d)
					}
				}
			}
		}
	}
	return l
}

func whole(d api.Desc) bool { return d.Has == 51 || d.Has == 60 }

// wholes are those of them that are complete, and partial the others.
func wholes() []api.Desc {
	return slices.DeleteFunc(well(), func(d api.Desc) bool { return !whole(d) })
}
func partial() []api.Desc { return slices.DeleteFunc(well(), whole) }

// illValues may not be.
func illValues() []api.Value {
	return []api.Value{
		number(0.5), number(minus), number(most + 1), number(-most - 1), number(inf), boolean(2), boolean(nan), text(long(api.MaxString + 1)),
		symbol(-1), thing(-1), callable(-1), maker(math.MinInt), {Kind: 9}, {Kind: 255}, {Num: 1}, {Str: "x"}, {Ref: 1}, {Num: minus},
		{Kind: api.Null, Str: "x"}, {Kind: api.Null, Ref: 3}, {Kind: api.Null, Num: nan}, {Kind: api.Number, Num: 1, Ref: 1}, {Kind: api.String, Ref: 1},
		{Kind: api.Symbol, Ref: 1, Str: "x"}, {Kind: api.Thing, Ref: 3, Str: "x"}, {Kind: api.Func, Ref: 3, Num: nan}, {Kind: api.Maker, Ref: 3, Num: minus},
	}
}

// noParents are values that may not be prototypes.
func noParents() []api.Value {
	return append(illValues(), undefined, boolean(0), boolean(1), number(0), number(3), number(nan), text(""), text("null"), symbol(0), symbol(3))
}

// illDescs may not be.
func illDescs() []api.Desc {
	l := []api.Desc{
		of(val(number(1)), get(undefined)), of(val(undefined), set(undefined)), of(write(false), get(callable(3))), of(write(true), set(maker(3))),
		of(val(number(1)), write(true), get(callable(3)), set(callable(3)), enum(true), conf(true)),
		{Has: 64}, {Has: 128}, {Has: 51 | 64, Value: number(1)}, {Has: 60 | 128, Get: callable(3)}, {Has: 255},
		{Writable: true}, {Enumerable: true}, {Configurable: true}, {Value: number(1)}, {Value: null}, {Get: callable(3)}, {Set: callable(3)}, {Has: 48, Value: number(1)},
		{Has: 51, Get: callable(3)}, {Has: 51, Set: maker(3)}, {Has: 60, Value: number(1)}, {Has: 60, Writable: true}, {Has: 35, Enumerable: true}, {Has: 19, Configurable: true},
	}
	for _, v := range illValues() {
		l = append(l, of(val(v)), dataOf(v, true, false, true), fixed(v), of(get(v)), of(set(v)), accessOf(v, undefined, true, true), accessOf(callable(3), v, false, false))
	}
	for _, v := range []api.Value{null, boolean(0), boolean(1), number(0), number(3), text(""), text("f"), symbol(3), thing(3)} {
		l = append(l, of(get(v)), of(set(v)), accessOf(callable(3), v, true, true), accessOf(v, undefined, false, false))
	}
	return l
}

// noWholes are not complete, some of them since they may not be.
func noWholes() []api.Desc { return append(illDescs(), partial()...) }

// illKeys may not be.
func illKeys() []api.Key {
	return []api.Key{{Sym: -1}, {Sym: math.MinInt}, {Str: "a", Sym: -1}, {Str: "a", Sym: 1}, {Str: long(api.MaxString + 1)}, {Str: long(api.MaxString + 1), Sym: 1}}
}

func keyOf(s string) api.Key { return api.Key{Str: s} }
func symKey(n int) api.Key   { return api.Key{Sym: n + 1} }

// keysOf are the keys of strings, but that @ is the symbol 0, @@ the symbol 1.
func keysOf(l ...string) []api.Key {
	var out []api.Key
	for _, s := range l {
		if strings.HasPrefix(s, "@") {
			out = append(out, symKey(len(s)-1))
			continue
		}
		out = append(out, keyOf(s))
	}
	return out
}

// many are so many keys, no two of them the same.
func many(n int) []api.Key {
	l := make([]api.Key, n)
	for i := range l {
		l[i] = keyOf(fmt.Sprint("k", i))
		if i%3 == 1 {
			l[i] = symKey(i)
		}
	}
	return l
}

// A claim is what Check is handed.
type claim struct {
	ask    api.Ask
	answer api.Out
	facts  post.Facts
}

// claimOf is a claim of that method, in which nothing else is told yet.
func claimOf(method uint8) claim {
	return claim{ask: api.Ask{Method: method}, answer: api.Out{Kind: api.Done}}
}

// show is all of a claim.
func (c claim) show() string {
	return fmt.Sprint(showAsk(c.ask), " answers ", showOut(c.answer), " facts ", showFacts(c.facts))
}

func showAsk(a api.Ask) string {
	return fmt.Sprint(post.Name(a.Method), a.Method, " object ", a.Object, " key ", showKeys([]api.Key{a.Key}), " desc ", showDesc(a.Desc), " value ", showValue(a.Value), " receiver ", showValue(a.Receiver), " args ", len(a.Args))
}

func showOut(o api.Out) string {
	return fmt.Sprint("{", o.Kind, " value ", showValue(o.Value), " bool ", o.Bool, " found ", o.Found, " desc ", showDesc(o.Desc), " keys ", showKeys(o.Keys), " error ", o.Error, " ", o.Text, "}")
}

func showFacts(f post.Facts) string {
	s := fmt.Sprint("ext ", f.Ext, " proto ", showValue(f.Proto), " found ", f.Found, " desc ", showDesc(f.Desc), " keys ", showKeys(f.Keys), " own ", len(f.Own))
	for _, d := range f.Own[:min(len(f.Own), 5)] {
		s += showDesc(d)
	}
	return s
}

func showDesc(d api.Desc) string {
	return fmt.Sprintf("{%d %s %s %s %t %t %t}", d.Has, showValue(d.Value), showValue(d.Get), showValue(d.Set), d.Writable, d.Enumerable, d.Configurable)
}

func showValue(v api.Value) string {
	s := fmt.Sprintf("%q", v.Str)
	if len(v.Str) > 40 {
		s = fmt.Sprintf("of %d bytes", len(v.Str))
	}
	return fmt.Sprintf("{%d %v %s %d}", v.Kind, v.Num, s, v.Ref)
}

func showKeys(l []api.Key) string {
	s := fmt.Sprint(len(l))
	for _, k := range l[:min(len(l), 6)] {
		s += fmt.Sprintf(" %.20q/%d", k.Str, k.Sym)
	}
	return s
}

// equal holds two Outs against each other to the bit, but that all that is no number is alike.
func equal(a, b api.Out) bool {
	return a.Kind == b.Kind && equalValue(a.Value, b.Value) && a.Bool == b.Bool && a.Found == b.Found && equalDesc(a.Desc, b.Desc) && slices.Equal(a.Keys, b.Keys) && a.Error == b.Error && a.Text == b.Text
}

func equalDesc(a, b api.Desc) bool {
	va, vb := a.Value, b.Value
	a.Value, b.Value = api.Value{}, api.Value{}
	return a == b && equalValue(va, vb) && equalValue(a.Get, b.Get) && equalValue(a.Set, b.Set)
}

func equalValue(a, b api.Value) bool {
	if math.IsNaN(a.Num) && math.IsNaN(b.Num) {
		a.Num, b.Num = 0, 0
	}
	return a == b && math.Signbit(a.Num) == math.Signbit(b.Num)
}

// rule is a short rule by which numbers below n follow one another.
func rule(seed uint32) func(n int) int {
	return func(n int) int {
		seed = seed*1664525 + 1013904223
		return int(seed>>16) % n
	}
}
