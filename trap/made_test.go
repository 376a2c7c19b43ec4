package trap_test

import (
	"fmt"
	"math"
	"slices"
	"strings"
	"testing"

	"bailiff/api"
	"bailiff/trap"
)

const most = float64(api.MaxSafe)

var (
	nan   = math.NaN()
	inf   = math.Inf(1)
	minus = math.Copysign(0, -1)
)

func boolean(b bool) api.Value {
	if b {
		return api.Value{Kind: api.Boolean, Num: 1}
	}
	return api.Value{Kind: api.Boolean}
}
func number(x float64) api.Value { return api.Value{Kind: api.Number, Num: x} }
func text(s string) api.Value    { return api.Value{Kind: api.String, Str: s} }
func symbol(n int) api.Value     { return api.Value{Kind: api.Symbol, Ref: n} }
func thing(n int) api.Value      { return api.Value{Kind: api.Thing, Ref: n} }
func callable(n int) api.Value   { return api.Value{Kind: api.Func, Ref: n} }
func maker(n int) api.Value      { return api.Value{Kind: api.Maker, Ref: n} }

var undefined, null = api.Value{Kind: api.Undefined}, api.Value{Kind: api.Null}

func long(n int) string { return strings.Repeat("x", n) }

func keyOf(s string) api.Key { return api.Key{Str: s} }
func symKey(n int) api.Key   { return api.Key{Sym: n + 1} }

// keysOf are the keys of strings, but that @ is the symbol 0, @@ the symbol 1.
func keysOf(l ...string) []api.Key {
	var out []api.Key
	for _, s := range l {
		if strings.HasPrefix(s, "@") {
			out = append(out, symKey(len(s)-1))
			continue
		}
		out = append(out, keyOf(s))
	}
	return out
}

func dataOf(v api.Value, w, e, c bool) api.Desc {
	return api.Desc{Has: 51, Value: v, Writable: w, Enumerable: e, Configurable: c}
}
func accessOf(g, s api.Value, e, c bool) api.Desc {
	return api.Desc{Has: 60, Get: g, Set: s, Enumerable: e, Configurable: c}
}

// fixed can't change at all, written can only be written, loose is the usual one.
func fixed(v api.Value) api.Desc   { return dataOf(v, false, false, false) }
func written(v api.Value) api.Desc { return dataOf(v, true, false, false) }
func loose(v api.Value) api.Desc   { return dataOf(v, true, true, true) }

func prop(s string, d api.Desc) api.Prop { return api.Prop{Key: keyOf(s), Desc: d} }

// What comes of something.
func val(v api.Value) api.Out        { return api.Out{Kind: api.Done, Value: v} }
func yes(b bool) api.Out             { return api.Out{Kind: api.Done, Bool: b} }
func none() api.Out                  { return api.Out{Kind: api.Done} }
func found(d api.Desc) api.Out       { return api.Out{Kind: api.Done, Found: true, Desc: d} }
func told(l ...string) api.Out       { return api.Out{Kind: api.Done, Keys: keysOf(l...)} }
func thrown(v api.Value) api.Out     { return api.Out{Kind: api.Throw, Value: v} }
func fail(e uint8, s string) api.Out { return api.Out{Kind: api.Fail, Error: e, Text: s} }
func refused() api.Out               { return fail(api.TypeError, "type") }
func tooMany() api.Out               { return fail(api.RangeError, "too many") }

// What is wanted.
func ask(m uint8, n int) api.Want {
	return api.Want{Kind: api.WantMethod, Ask: api.Ask{Method: m, Object: n}}
}
func askOf(m uint8, n int, k api.Key) api.Want {
	return api.Want{Kind: api.WantMethod, Ask: api.Ask{Method: m, Object: n, Key: k}}
}
func getOf(v api.Value, s string) api.Want {
	return api.Want{Kind: api.WantMethod, Ask: api.Ask{Method: api.Get, Object: v.Ref, Key: keyOf(s), Receiver: v}}
}
func hasOf(v api.Value, s string) api.Want { return askOf(api.HasProperty, v.Ref, keyOf(s)) }
func callOf(f, this api.Value, args ...api.Value) api.Want {
	return api.Want{Kind: api.WantCall, Func: f, This: this, Args: args}
}
func plainOf(l ...api.Prop) api.Want {
	return api.Want{Kind: api.WantNew, Object: api.Object{Kind: api.Plain, Proto: thing(0), Ext: true, Props: l}}
}
func arrayOf(l ...api.Value) api.Want {
	props := []api.Prop{prop("length", dataOf(number(float64(len(l))), true, false, false))}
	for i, v := range l {
		props = append(props, prop(fmt.Sprint(i), loose(v)))
	}
	return api.Want{Kind: api.WantNew, Object: api.Object{Kind: api.Array, Proto: thing(2), Ext: true, Props: props}}
}
func endOf(o api.Out) api.Want { return api.Want{Kind: api.WantEnd, Out: o} }

// The names of the traps, by their methods.
func trapName(m uint8) string {
	return []string{"", "getPrototypeOf", "setPrototypeOf", "isExtensible", "preventExtensions", "getOwnPropertyDescriptor", "defineProperty", "has", "get", "set", "deleteProperty", "ownKeys", "apply", "construct"}[m]
}

func methods() []uint8 { return []uint8{1, 2, 3, 4, 5, 6, 7, 8, 9, 10, 11, 12, 13} }

func isKeyed(m uint8) bool { return slices.Contains([]uint8{5, 6, 7, 8, 9, 10}, m) }

// illValues may not be.
func illValues() []api.Value {
	return []api.Value{
		number(0.5), number(minus), number(most + 1), number(-most - 1), number(inf), {Kind: api.Boolean, Num: 2}, {Kind: api.Boolean, Num: nan}, text(long(api.MaxString + 1)),
		symbol(-1), thing(-1), callable(-1), maker(math.MinInt), {Kind: 9}, {Kind: 255}, {Num: 1}, {Str: "x"}, {Ref: 1}, {Num: minus},
		{Kind: api.Null, Str: "x"}, {Kind: api.Null, Ref: 3}, {Kind: api.Null, Num: nan}, {Kind: api.Number, Num: 1, Ref: 1}, {Kind: api.String, Ref: 1},
		{Kind: api.Symbol, Ref: 1, Str: "x"}, {Kind: api.Thing, Ref: 3, Str: "x"}, {Kind: api.Func, Ref: 3, Num: nan}, {Kind: api.Maker, Ref: 3, Num: minus},
	}
}

// illDescs may not be.
func illDescs() []api.Desc {
	return []api.Desc{
		{Has: 5}, {Has: 9}, {Has: 6}, {Has: 10}, {Has: 63}, {Has: 64}, {Has: 128}, {Has: 255},
		{Writable: true}, {Enumerable: true}, {Configurable: true}, {Value: number(1)}, {Get: callable(3)}, {Set: callable(3)},
		{Has: 51, Get: callable(3)}, {Has: 60, Value: number(1)}, {Has: 60, Writable: true}, {Has: 19, Configurable: true},
		{Has: 1, Value: number(0.5)}, {Has: 51, Value: thing(-1)}, {Has: 4, Get: null}, {Has: 8, Set: thing(3)}, {Has: 60, Get: callable(-1)}, {Has: 60, Set: number(1)},
	}
}

// illKeys may not be.
func illKeys() []api.Key {
	return []api.Key{{Sym: -1}, {Sym: math.MinInt}, {Str: "a", Sym: -1}, {Str: "a", Sym: 1}, {Str: long(api.MaxString + 1)}, {Str: long(api.MaxString + 1), Sym: 1}}
}

// A turn is what is wanted, and what is given then.
type turn struct {
	want api.Want
	give api.Out
}

// begin starts a Task that may be.
func begin(t *testing.T, name string, a api.Ask, target, handler api.Value) *trap.Task {
	t.Helper()
	task, e := trap.Start(a, target, handler)
	if e != api.OK || task == nil {
		t.Fatalf("%s: Start: %d", name, e)
	}
	return task
}

// next gives a Task what it may be given, and holds what it wants then.
func next(t *testing.T, name string, task *trap.Task, o api.Out, want api.Want) bool {
	t.Helper()
	w, e := task.Next(o)
	if e != api.OK || !sameWant(w, want) {
		t.Errorf("%s: given %s\n\t  wants %s (%d)\n\tnot yet %s", name, showOut(o), showWant(w), e, showWant(want))
		return false
	}
	return true
}

// holdTalk holds a Task against what it is to want, and to end with.
func holdTalk(t *testing.T, name string, a api.Ask, target, handler api.Value, l []turn, end api.Out) {
	t.Helper()
	task := begin(t, name, a, target, handler)
	o := api.Out{Kind: 77, Value: number(0.5), Keys: illKeys(), Desc: api.Desc{Has: 255}} // at first anything
	for i, x := range l {
		if !next(t, fmt.Sprint(name, " ", i), task, o, x.want) {
			return
		}
		o = x.give
	}
	if next(t, name+" end", task, o, endOf(end)) {
		holdEnded(t, name, task)
	}
}

// holdEnded holds that a Task has ended.
func holdEnded(t *testing.T, name string, task *trap.Task) {
	t.Helper()
	for _, o := range []api.Out{none(), {}, val(callable(5)), thrown(null), fail(1, "type")} {
		if w, e := task.Next(o); e != api.ErrStep || !sameWant(w, api.Want{}) {
			t.Errorf("%s: behind the end: %s (%d)", name, showWant(w), e)
		}
	}
}

// Two of anything are the same, if all their fields are, to the bit; but all that is no number is alike, and so are lists without elements.
func sameWant(a, b api.Want) bool {
	return a.Kind == b.Kind && sameAsk(a.Ask, b.Ask) && sameValue(a.Func, b.Func) && sameValue(a.This, b.This) && sameValue(a.For, b.For) && slices.EqualFunc(a.Args, b.Args, sameValue) && sameObject(a.Object, b.Object) && sameOut(a.Out, b.Out)
}

func sameAsk(a, b api.Ask) bool {
	return a.Method == b.Method && a.Object == b.Object && a.Key == b.Key && sameDesc(a.Desc, b.Desc) && sameValue(a.Value, b.Value) && sameValue(a.Receiver, b.Receiver) && slices.EqualFunc(a.Args, b.Args, sameValue)
}

func sameObject(a, b api.Object) bool {
	return a.Kind == b.Kind && sameValue(a.Proto, b.Proto) && a.Ext == b.Ext && slices.EqualFunc(a.Props, b.Props, sameProp) && sameValue(a.Target, b.Target) && sameValue(a.Handler, b.Handler) && a.Text == b.Text && a.Calls == b.Calls && a.Makes == b.Makes
}

func sameProp(a, b api.Prop) bool { return a.Key == b.Key && sameDesc(a.Desc, b.Desc) }

func sameOut(a, b api.Out) bool {
	return a.Kind == b.Kind && sameValue(a.Value, b.Value) && a.Bool == b.Bool && a.Found == b.Found && sameDesc(a.Desc, b.Desc) && slices.Equal(a.Keys, b.Keys) && a.Error == b.Error && a.Text == b.Text
}

func sameDesc(a, b api.Desc) bool {
	return a.Has == b.Has && sameValue(a.Value, b.Value) && sameValue(a.Get, b.Get) && sameValue(a.Set, b.Set) && a.Writable == b.Writable && a.Enumerable == b.Enumerable && a.Configurable == b.Configurable
}

func sameValue(a, b api.Value) bool {
	if math.IsNaN(a.Num) && math.IsNaN(b.Num) {
		a.Num, b.Num = 0, 0
	}
	return a == b && math.Signbit(a.Num) == math.Signbit(b.Num)
}

func showWant(w api.Want) string {
	switch w.Kind {
	case api.WantEnd:
		return "the end " + showOut(w.Out)
	case api.WantMethod:
		return "ask " + trapName(w.Ask.Method) + cut(w.Ask)
	}
	return cut(w)
}

func showOut(o api.Out) string { return cut(o) }

// cut shows the beginning of anything.
func cut(x any) string {
	s := fmt.Sprintf("%+v", x)
	return s[:min(len(s), 600)]
}
