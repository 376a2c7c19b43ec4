package coerce_test

import (
	"fmt"
	"math"
	"slices"
	"strings"
	"testing"

	"bailiff/api"
	"bailiff/coerce"
)

const most = float64(api.MaxSafe)

var (
	nan   = math.NaN()
	inf   = math.Inf(1)
	minus = math.Copysign(0, -1)
)

func boolean(b bool) api.Value {
	if b {
		return api.Value{Kind: api.Boolean, Num: 1}
	}
	return api.Value{Kind: api.Boolean}
}
func number(x float64) api.Value { return api.Value{Kind: api.Number, Num: x} }
func text(s string) api.Value    { return api.Value{Kind: api.String, Str: s} }
func symbol(n int) api.Value     { return api.Value{Kind: api.Symbol, Ref: n} }
func thing(n int) api.Value      { return api.Value{Kind: api.Thing, Ref: n} }
func callable(n int) api.Value   { return api.Value{Kind: api.Func, Ref: n} }
func maker(n int) api.Value      { return api.Value{Kind: api.Maker, Ref: n} }

var undefined, null = api.Value{Kind: api.Undefined}, api.Value{Kind: api.Null}

// nay is false with a minus, which may be.
var nay = api.Value{Kind: api.Boolean, Num: minus}

func long(n int) string { return strings.Repeat("x", n) }

func keyOf(s string) api.Key { return api.Key{Str: s} }
func symKey(n int) api.Key   { return api.Key{Sym: n + 1} }

// What comes of something.
func val(v api.Value) api.Out        { return api.Out{Kind: api.Done, Value: v} }
func thrown(v api.Value) api.Out     { return api.Out{Kind: api.Throw, Value: v} }
func fail(e uint8, s string) api.Out { return api.Out{Kind: api.Fail, Error: e, Text: s} }
func refused() api.Out               { return fail(api.TypeError, "type") }
func inexact() api.Out               { return fail(api.RangeError, "inexact") }
func tooMany() api.Out               { return fail(api.RangeError, "too many") }

// What is wanted.
func getKey(v api.Value, k api.Key) api.Want {
	return api.Want{Kind: api.WantMethod, Ask: api.Ask{Method: api.Get, Object: v.Ref, Key: k, Receiver: v}}
}
func getOf(v api.Value, s string) api.Want { return getKey(v, keyOf(s)) }

// ownWay asks an object for the symbol 0.
func ownWay(v api.Value) api.Want { return getKey(v, symKey(0)) }
func callOf(f, this api.Value, args ...api.Value) api.Want {
	return api.Want{Kind: api.WantCall, Func: f, This: this, Args: args}
}
func endOf(o api.Out) api.Want { return api.Want{Kind: api.WantEnd, Out: o} }

func kinds() []uint8 {
	return []uint8{coerce.Prim, coerce.Number, coerce.Text, coerce.Key, coerce.Like, coerce.Less, coerce.Add}
}

func kindName(kind uint8) string {
	return []string{"none", "prim", "number", "text", "key", "like", "less", "add"}[kind%8]
}

// plains are values of all sorts that are no objects.
func plains() []api.Value {
	return []api.Value{
		undefined, null, boolean(false), boolean(true), nay,
		number(0), number(1), number(-1), number(7), number(nan), number(math.Copysign(nan, -1)), number(most), number(-most), number(1 << 40),
		text(""), text(" "), text("0"), text("1"), text("-1"), text(" 7 "), text("7"), text("\t\r\n7"), text("+007"), text("-0"), text("-"), text("1.5"), text("1e3"), text("0x10"), text("7 7"), text("NaN"), text("Infinity"), text("true"), text("null"), text("undefined"), text("a"), text("ab"), text("b"), text("\x00"), text("\xff"),
		text("9007199254740991"), text("9007199254740992"), text("-9007199254740992"), text(long(api.MaxString)), text(strings.Repeat("9", api.MaxString)), text(strings.Repeat("0", api.MaxString)),
		symbol(0), symbol(1), symbol(math.MaxInt),
	}
}

// things are objects of all kinds.
func things() []api.Value {
	return []api.Value{thing(3), callable(3), maker(3), thing(0), thing(4), callable(5), maker(6), thing(math.MaxInt)}
}

// illValues may not be.
func illValues() []api.Value {
	return []api.Value{
		number(0.5), number(minus), number(most + 1), number(-most - 1), number(inf), {Kind: api.Boolean, Num: 2}, {Kind: api.Boolean, Num: nan}, text(long(api.MaxString + 1)),
		symbol(-1), thing(-1), callable(-1), maker(math.MinInt), {Kind: 9}, {Kind: 255}, {Num: 1}, {Str: "x"}, {Ref: 1}, {Num: minus},
		{Kind: api.Null, Str: "x"}, {Kind: api.Null, Ref: 3}, {Kind: api.Null, Num: nan}, {Kind: api.Number, Num: 1, Ref: 1}, {Kind: api.String, Ref: 1},
		{Kind: api.Symbol, Ref: 1, Str: "x"}, {Kind: api.Thing, Ref: 3, Str: "x"}, {Kind: api.Func, Ref: 3, Num: nan}, {Kind: api.Maker, Ref: 3, Num: minus},
	}
}

// illKeys may not be.
func illKeys() []api.Key {
	return []api.Key{{Sym: -1}, {Sym: math.MinInt}, {Str: "a", Sym: -1}, {Str: "a", Sym: 1}, {Str: long(api.MaxString + 1)}, {Str: long(api.MaxString + 1), Sym: 1}}
}

// illDescs may not be.
func illDescs() []api.Desc {
	return []api.Desc{
		{Has: 5}, {Has: 9}, {Has: 6}, {Has: 10}, {Has: 63}, {Has: 64}, {Has: 128}, {Has: 255},
		{Writable: true}, {Enumerable: true}, {Configurable: true}, {Value: number(1)}, {Get: callable(3)}, {Set: callable(3)},
		{Has: 51, Get: callable(3)}, {Has: 60, Value: number(1)}, {Has: 60, Writable: true}, {Has: 19, Configurable: true},
		{Has: 1, Value: number(0.5)}, {Has: 51, Value: thing(-1)}, {Has: 4, Get: null}, {Has: 8, Set: thing(3)}, {Has: 60, Get: callable(-1)}, {Has: 60, Set: number(1)},
	}
}

// A start is what Start is handed.
type start struct {
	kind, hint uint8
	v, w       api.Value
}

func (s start) String() string {
	return fmt.Sprint(kindName(s.kind), " ", s.hint, " ", cut(s.v), " ", cut(s.w))
}

// A turn is what is wanted, and what is given then.
type turn struct {
	want api.Want
	give api.Out
}

// begin starts a Task that may be.
func begin(t *testing.T, s start) *coerce.Task {
	t.Helper()
	task, e := coerce.Start(s.kind, s.hint, s.v, s.w)
	if e != api.OK || task == nil {
		t.Fatalf("%v: Start: %d", s, e)
	}
	return task
}

// next gives a Task what it may be given, and holds what it wants then.
func next(t *testing.T, name string, task *coerce.Task, o api.Out, want api.Want) bool {
	t.Helper()
	w, e := task.Next(o)
	if e != api.OK || !sameWant(w, want) {
		t.Errorf("%s: given %s\n\t  wants %s (%d)\n\tnot yet %s", name, cut(o), cut(w), e, cut(want))
		return false
	}
	return true
}

// holdTalk holds a Task against what it is to want, and to end with.
func holdTalk(t *testing.T, s start, l []turn, end api.Out) {
	t.Helper()
	task := begin(t, s)
	o := api.Out{Kind: 77, Value: number(0.5), Keys: illKeys(), Desc: api.Desc{Has: 255}} // at first anything
	for i, x := range l {
		if !next(t, fmt.Sprint(s, " ", i), task, o, x.want) {
			return
		}
		o = x.give
	}
	if next(t, fmt.Sprint(s, " end"), task, o, endOf(end)) {
		holdEnded(t, s, task)
	}
}

// holdEnded holds that a Task has ended.
func holdEnded(t *testing.T, s start, task *coerce.Task) {
	t.Helper()
	for _, o := range []api.Out{val(undefined), {}, val(callable(5)), thrown(null), refused()} {
		if w, e := task.Next(o); e != api.ErrStep || !sameWant(w, api.Want{}) {
			t.Errorf("%v: behind the end: %s (%d)", s, cut(w), e)
		}
	}
}

// Two of anything are the same, if all their fields are, to the bit; but all that is no number is alike, and so are lists without elements.
func sameWant(a, b api.Want) bool {
	return a.Kind == b.Kind && sameAsk(a.Ask, b.Ask) && sameValue(a.Func, b.Func) && sameValue(a.This, b.This) && sameValue(a.For, b.For) && slices.EqualFunc(a.Args, b.Args, sameValue) && bare(a.Object) && bare(b.Object) && sameOut(a.Out, b.Out)
}

func sameAsk(a, b api.Ask) bool {
	return a.Method == b.Method && a.Object == b.Object && a.Key == b.Key && a.Desc == b.Desc && sameValue(a.Value, b.Value) && sameValue(a.Receiver, b.Receiver) && slices.EqualFunc(a.Args, b.Args, sameValue)
}

// bare tells an object in which nothing stands: no coercion wants one.
func bare(o api.Object) bool {
	return o.Kind == 0 && o.Proto == undefined && !o.Ext && len(o.Props) == 0 && o.Target == undefined && o.Handler == undefined && o.Text == "" && !o.Calls && !o.Makes
}

func sameOut(a, b api.Out) bool {
	return a.Kind == b.Kind && sameValue(a.Value, b.Value) && a.Bool == b.Bool && a.Found == b.Found && a.Desc == b.Desc && slices.Equal(a.Keys, b.Keys) && a.Error == b.Error && a.Text == b.Text
}

func sameValue(a, b api.Value) bool {
	if math.IsNaN(a.Num) && math.IsNaN(b.Num) {
		a.Num, b.Num = 0, 0
	}
	return a == b && math.Signbit(a.Num) == math.Signbit(b.Num)
}

// cut shows the beginning of anything.
func cut(x any) string {
	s := fmt.Sprintf("%+v", x)
	return s[:min(len(s), 300)]
}
