package desc_test

import (
	"fmt"
	"math"
	"strings"

	"bailiff/api"
)

const most = float64(api.MaxSafe)

var (
	nan   = math.NaN()
	inf   = math.Inf(1)
	minus = math.Copysign(0, -1)
)

func boolean(x float64) api.Value { return api.Value{Kind: api.Boolean, Num: x} }
func number(x float64) api.Value  { return api.Value{Kind: api.Number, Num: x} }
func text(s string) api.Value     { return api.Value{Kind: api.String, Str: s} }
func symbol(n int) api.Value      { return api.Value{Kind: api.Symbol, Ref: n} }
func thing(n int) api.Value       { return api.Value{Kind: api.Thing, Ref: n} }
func callable(n int) api.Value    { return api.Value{Kind: api.Func, Ref: n} }
func maker(n int) api.Value       { return api.Value{Kind: api.Maker, Ref: n} }

var undefined, null = api.Value{Kind: api.Undefined}, api.Value{Kind: api.Null}

func long(n int) string { return strings.Repeat("x", n) }

// What Has may have, by the numbers that the document's ways of writing it come to.
const (
	hasValue    = 1
	hasWritable = 2
	hasGet      = 4
	hasSet      = 8
	hasEnum     = 16
	hasConf     = 32
)

// A part is one field of a descriptor that is made.
type part func(d *api.Desc)

func val(v api.Value) part {
	return func(d *api.Desc) { d.Has |= hasValue; d.Value = v }
}
func write(b bool) part {
	return func(d *api.Desc) { d.Has |= hasWritable; d.Writable = b }
}
func get(v api.Value) part {
	return func(d *api.Desc) { d.Has |= hasGet; d.Get = v }
}
func set(v api.Value) part {
	return func(d *api.Desc) { d.Has |= hasSet; d.Set = v }
}
func enum(b bool) part {
	return func(d *api.Desc) { d.Has |= hasEnum; d.Enumerable = b }
}
func conf(b bool) part {
	return func(d *api.Desc) { d.Has |= hasConf; d.Configurable = b }
}

// of is a descriptor of these fields.
func of(parts ...part) api.Desc {
	d := api.Desc{}
	for _, p := range parts {
		p(&d)
	}
	return d
}

// dataOf and accessOf are complete.
func dataOf(v api.Value, w, e, c bool) api.Desc {
	return of(val(v), write(w), enum(e), conf(c))
}
func accessOf(g, s api.Value, e, c bool) api.Desc {
	return of(get(g), set(s), enum(e), conf(c))
}

// show is all of a descriptor's fields, but of long strings how long they are.
func show(d api.Desc) string {
	return fmt.Sprintf("{%d %s %s %s %t %t %t}", d.Has, showValue(d.Value), showValue(d.Get), showValue(d.Set), d.Writable, d.Enumerable, d.Configurable)
}

func showValue(v api.Value) string {
	s := fmt.Sprintf("%q", v.Str)
	if len(v.Str) > 40 {
		s = fmt.Sprintf("of %d bytes", len(v.Str))
	}
	return fmt.Sprintf("{%d %v %s %d}", v.Kind, v.Num, s, v.Ref)
}

// equal holds two descriptors against each other to the bit, but that all that is no number is alike.
func equal(a, b api.Desc) bool {
	va, vb := a.Value, b.Value
	a.Value, b.Value = api.Value{}, api.Value{}
	return a == b && equalValue(va, vb) && sign(a.Get) == sign(b.Get) && sign(a.Set) == sign(b.Set)
}

func sign(v api.Value) bool { return math.Signbit(v.Num) }

func equalValue(a, b api.Value) bool {
	if math.IsNaN(a.Num) && math.IsNaN(b.Num) {
		a.Num, b.Num = 0, 0
	}
	return a == b && sign(a) == sign(b)
}

func bools() []bool { return []bool{false, true} }

// values are such as may be, the first three of them two that are the same and one that is not.
func values() []api.Value {
	return []api.Value{maker(3), thing(3), thing(4), undefined, number(nan), number(1), boolean(1), text("1")}
}

// doers may stand as Get and Set.
func doers() []api.Value {
	return []api.Value{undefined, callable(3), maker(3), callable(4)}
}

// choices are no field, or one of these.
func choices[T any](l []T, field func(x T) part) []part {
	out := []part{func(*api.Desc) {}}
	for _, x := range l {
		out = append(out, field(x))
	}
	return out
}

// well are descriptors of all sorts that may be, no two of them alike.
func well() []api.Desc {
	var l []api.Desc
	for _, e := range choices(bools(), enum) {
		for _, c := range choices(bools(), conf) {
			for _, v := range choices(values(), val) {
				for _, w := range choices(bools(), write) {
					l = append(l, of(e, c, v, w))
				}
			}
			for _, g := range choices(doers(), get) {
				for _, s := range choices(doers(), set) {
					if d := of(e, c, g, s); d.Has&(hasGet|hasSet) != 0 {
						l = append(l, d)
					}
				}
			}
		}
	}
	return l
}

// wholes are those of them that are complete.
func wholes() []api.Desc {
	var l []api.Desc
	for _, d := range well() {
		if d.Has == 51 || d.Has == 60 {
			l = append(l, d)
		}
	}
	return l
}

// ill are descriptors that may not be: each has one fault.
func ill() []api.Desc {
	l := []api.Desc{
		of(val(number(1)), get(undefined)), of(val(undefined), set(undefined)), of(write(false), get(callable(3))), of(write(true), set(maker(3))),
		of(val(number(1)), write(true), get(callable(3)), set(callable(3)), enum(true), conf(true)),
	}
	for _, has := range []uint8{64, 128, 192} {
		for _, d := range []api.Desc{{}, of(val(number(1))), of(get(callable(3))), dataOf(number(1), true, true, true), accessOf(callable(3), maker(3), false, true)} {
			d.Has |= has
			l = append(l, d)
		}
	}
	for _, v := range []api.Value{number(0.5), number(minus), number(most + 1), number(-most - 1), number(inf), boolean(2), boolean(nan), text(long(api.MaxString + 1)), symbol(-1), thing(-1), callable(-1), maker(math.MinInt), {Kind: 9}, {Kind: 255}, {Kind: api.Undefined, Num: 1}, {Kind: api.Undefined, Num: minus}, {Kind: api.Null, Str: "x"}, {Kind: api.Number, Num: 1, Ref: 1}, {Kind: api.String, Ref: 1}, {Kind: api.Thing, Str: "x"}, {Kind: api.Func, Num: nan}} {
		l = append(l, of(val(v)), dataOf(v, true, false, true), of(get(v)), of(set(v)), accessOf(v, undefined, true, true), accessOf(callable(3), v, false, false))
	}
	for _, v := range []api.Value{null, boolean(0), boolean(1), number(0), number(1), number(nan), text(""), text("f"), symbol(0), symbol(3), thing(0), thing(3)} {
		l = append(l, of(get(v)), of(set(v)), of(get(v), set(callable(3))), accessOf(callable(3), v, true, true), accessOf(v, v, false, false))
	}
	return append(l, beyond()...)
}

// beyond are descriptors with something in one field that they do not have.
func beyond() []api.Desc {
	var l []api.Desc
	for _, d := range []api.Desc{{}, of(val(number(1))), of(write(true)), of(get(callable(3))), of(set(maker(3))), of(enum(true)), of(conf(true)), dataOf(text("a"), true, true, true), accessOf(callable(3), undefined, false, false)} {
		more := []part{enum(true), conf(true), write(true)}
		for _, v := range []api.Value{null, boolean(0), number(0), number(nan), text(""), symbol(0), thing(0), callable(3), maker(3), {Kind: 9}, {Num: 1}, {Num: nan}, {Str: "x"}, {Ref: 1}, {Ref: -1}} {
			more = append(more, val(v), get(v), set(v))
		}
		for _, p := range more {
			with := d
			p(&with)
			if with.Has != d.Has {
				with.Has = d.Has
				l = append(l, with)
			}
		}
	}
	return l
}
