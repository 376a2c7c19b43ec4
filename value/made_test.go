package value_test

import (
	"math"
	"strings"

	"bailiff/api"
)

const most = float64(api.MaxSafe)

var (
	nan   = math.NaN()
	inf   = math.Inf(1)
	minus = math.Copysign(0, -1)
)

func boolean(x float64) api.Value { return api.Value{Kind: api.Boolean, Num: x} }
func number(x float64) api.Value  { return api.Value{Kind: api.Number, Num: x} }
func text(s string) api.Value     { return api.Value{Kind: api.String, Str: s} }
func symbol(n int) api.Value      { return api.Value{Kind: api.Symbol, Ref: n} }
func thing(n int) api.Value       { return api.Value{Kind: api.Thing, Ref: n} }
func callable(n int) api.Value    { return api.Value{Kind: api.Func, Ref: n} }
func maker(n int) api.Value       { return api.Value{Kind: api.Maker, Ref: n} }

var undefined, null = api.Value{Kind: api.Undefined}, api.Value{Kind: api.Null}

func long(n int) string { return strings.Repeat("x", n) }

func nums() []float64 {
	return []float64{0, minus, 1, -1, 2, 7, 0.5, -0.5, nan, math.Copysign(nan, -1), inf, -inf, most, -most, most + 1, -most - 1, 1e300, math.SmallestNonzeroFloat64, math.Nextafter(1, 2)}
}

func strs() []string {
	return []string{"", "a", "0", "\x00", "\xff\n", long(api.MaxString), long(api.MaxString + 1)}
}

func refs() []int {
	return []int{0, 1, 2, 3, api.MaxObjects, -1, math.MaxInt, math.MinInt}
}

// every is each value of all kinds, those that there are not, too, with all of these in its fields.
func every(do func(v api.Value)) {
	for kind := range 256 {
		if kind > 12 && kind < 250 && kind != 128 {
			continue
		}
		for _, x := range nums() {
			for _, s := range strs() {
				for _, n := range refs() {
					do(api.Value{Kind: uint8(kind), Num: x, Str: s, Ref: n})
				}
			}
		}
	}
}

// fact is what is told of one value.
type fact struct {
	v          api.Value
	may, truth bool
	kind, text string
}

// facts are values that have nothing beside what their Kind has, and what the chapter's rows tell of them.
func facts() []fact {
	l := []fact{
		{undefined, true, false, "undefined", "undefined"},
		{null, true, false, "object", "null"},
		{boolean(0), true, false, "boolean", "false"},
		{boolean(minus), true, false, "boolean", "false"},
		{boolean(1), true, true, "boolean", "true"},
		{boolean(2), false, true, "boolean", "true"},
		{boolean(-1), false, true, "boolean", "true"},
		{boolean(0.5), false, true, "boolean", "true"},
		{boolean(inf), false, true, "boolean", "true"},
		{boolean(nan), false, false, "boolean", "true"},
		{number(0), true, false, "number", "0"},
		{number(minus), false, false, "number", ""},
		{number(nan), true, false, "number", "NaN"},
		{number(1), true, true, "number", "1"},
		{number(-1), true, true, "number", "-1"},
		{number(7), true, true, "number", "7"},
		{number(most), true, true, "number", "9007199254740991"},
		{number(-most), true, true, "number", "-9007199254740991"},
		{number(most + 1), false, true, "number", ""},
		{number(-most - 1), false, true, "number", ""},
		{number(0.5), false, true, "number", ""},
		{number(inf), false, true, "number", ""},
		{number(-inf), false, true, "number", ""},
		{number(math.SmallestNonzeroFloat64), false, true, "number", ""},
		{text(""), true, false, "string", `""`},
		{text("0"), true, true, "string", `"0"`},
		{text("false"), true, true, "string", `"false"`},
		{text(" "), true, true, "string", `" "`},
		{text("\x00"), true, true, "string", `"\x00"`},
		{text("a\n"), true, true, "string", `"a\n"`},
		{text("a\"\\\xff"), true, true, "string", `"a\"\\\xff"`},
		{text("undefined"), true, true, "string", `"undefined"`},
		{text(long(api.MaxString)), true, true, "string", `"` + long(api.MaxString) + `"`},
		{text(long(api.MaxString + 1)), false, true, "string", `"` + long(api.MaxString+1) + `"`},
		{symbol(0), true, true, "symbol", "symbol 0"},
		{symbol(2), true, true, "symbol", "symbol 2"},
		{symbol(-1), false, true, "symbol", "symbol -1"},
		{symbol(math.MaxInt), true, true, "symbol", "symbol 9223372036854775807"},
		{symbol(math.MinInt), false, true, "symbol", "symbol -9223372036854775808"},
		{thing(0), true, true, "object", "object 0"},
		{thing(4), true, true, "object", "object 4"},
		{thing(-1), false, true, "object", "object -1"},
		{thing(math.MaxInt), true, true, "object", "object 9223372036854775807"},
		{callable(0), true, true, "function", "object 0"},
		{callable(4), true, true, "function", "object 4"},
		{callable(-1), false, true, "function", "object -1"},
		{maker(0), true, true, "function", "object 0"},
		{maker(4), true, true, "function", "object 4"},
		{maker(12), true, true, "function", "object 12"},
		{maker(-1), false, true, "function", "object -1"},
	}
	for kind := int(api.Maker) + 1; kind < 256; kind++ {
		l = append(l, fact{api.Value{Kind: uint8(kind)}, false, false, "", ""})
	}
	return l
}

// more is a value with something in a field that its Kind has not: one such field at a time, and then all of them.
func more(v api.Value) []api.Value {
	var l []api.Value
	all := v
	if v.Kind != api.Boolean && v.Kind != api.Number {
		for _, x := range []float64{1, nan, minus, 0.5} {
			w := v
			w.Num = x
			l = append(l, w)
		}
		all.Num = 7
	}
	if v.Kind != api.String {
		w := v
		w.Str = "x"
		l = append(l, w)
		all.Str = long(api.MaxString + 1)
	}
	if v.Kind < api.Symbol || v.Kind > api.Maker {
		for _, n := range []int{1, -1} {
			w := v
			w.Ref = n
			l = append(l, w)
		}
		all.Ref = 7
	}
	return append(l, all)
}

// several are values of all kinds, of which none need be one that may be.
func several() []api.Value {
	var l []api.Value
	for _, f := range facts() {
		if f.v.Kind > 10 && f.v.Kind < 255 {
			continue
		}
		l = append(append(l, f.v), more(f.v)...)
	}
	return l
}

// well are values of all kinds that may be.
func well() []api.Value {
	var l []api.Value
	for _, f := range facts() {
		if f.may {
			l = append(l, f.v)
		}
	}
	return append(l, boolean(0), number(math.Copysign(nan, -1)), number(1023), text("1"), text("7"), text(" 7 "), text("-0"), text("1.5"), symbol(1), thing(7), callable(7), maker(7))
}
