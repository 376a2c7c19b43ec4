package trap_test

import (
	"fmt"
	"testing"

	"bailiff/api"
)

// P16.2: the first steps, and the table's rows, by hand.

var target, handler = thing(1), thing(2)

// f is the trap in most rows.
var f = callable(5)

func TestExamples(t *testing.T) {
	a := api.Ask{Method: api.Get, Object: 9, Key: keyOf("a"), Receiver: thing(9)}
	seek := getOf(handler, "get")
	again := a
	again.Object = 1
	holdTalk(t, "no trap", a, target, handler, []turn{{seek, val(undefined)}, {api.Want{Kind: api.WantMethod, Ask: again}, val(number(7))}}, val(number(7)))
	call := callOf(f, handler, target, text("a"), thing(9))
	own := askOf(api.GetOwnProperty, 1, keyOf("a"))
	holdTalk(t, "a lie", a, target, handler, []turn{{seek, val(f)}, {call, val(number(7))}, {own, found(fixed(number(8)))}}, refused())
	holdTalk(t, "none", a, target, handler, []turn{{seek, val(f)}, {call, val(number(7))}, {own, none()}}, val(number(7)))
	holdTalk(t, "revoked", api.Ask{Method: api.IsExtensible}, thing(1), null, nil, refused())
}

// filled is an ask of a method in which all fields are told, and no two values are alike.
func filled(m uint8) api.Ask {
	a := api.Ask{Method: m, Object: 90, Key: keyOf("a"), Desc: api.Desc{Has: 1, Value: number(91)}, Value: number(92), Receiver: number(93), Args: []api.Value{number(94), text("95"), thing(96)}}
	if m == api.SetPrototypeOf {
		a.Value = thing(92)
	}
	return a
}

// Step 1.
func TestRevoked(t *testing.T) {
	for _, m := range methods() {
		holdTalk(t, trapName(m), filled(m), maker(1), null, nil, refused())
	}
}

// Steps 2 and 3: the trap's name, of each kind of handler, and the same ask of the target, of each kind of target.
func TestNoTrap(t *testing.T) {
	for _, m := range methods() {
		for _, h := range []api.Value{thing(2), callable(2), maker(2), thing(0)} {
			for _, to := range []api.Value{maker(1), maker(0), callable(1), thing(1)} {
				if m == api.Call && to.Kind == api.Thing || m == api.Construct && to.Kind != api.Maker {
					continue
				}
				for _, no := range []api.Value{undefined, null} {
					a := filled(m)
					again := a
					again.Object = to.Ref
					pass := api.Want{Kind: api.WantMethod, Ask: again}
					for i, o := range []api.Out{none(), yes(true), val(thing(3)), val(number(7)), val(text("x")), found(fixed(null)), found(accessor()), told("b", "a", "@", "b"), {Kind: api.Done, Value: number(1), Bool: true, Found: true, Desc: loose(null), Keys: keysOf("a")}, thrown(number(4)), thrown(thing(4))} {
						holdTalk(t, fmt.Sprint(trapName(m), " ", i), a, to, h, []turn{{getOf(h, trapName(m)), val(no)}, {pass, o}}, o)
					}
					holdTalk(t, trapName(m)+" thrown", a, to, h, []turn{{getOf(h, trapName(m)), thrown(no)}}, thrown(no))
				}
			}
		}
	}
}

// What a method has no use for is passed on as it is, even where it may not be.
func TestPassedAsItIs(t *testing.T) {
	for _, m := range methods() {
		a := filled(m)
		if !isKeyed(m) {
			a.Key = illKeys()[3]
		}
		if m != api.DefineOwnProperty {
			a.Desc = illDescs()[4]
		}
		again := a
		again.Object = 1
		holdTalk(t, trapName(m), a, maker(1), handler, []turn{{getOf(handler, trapName(m)), val(undefined)}, {api.Want{Kind: api.WantMethod, Ask: again}, none()}}, none())
	}
}

// Step 4.
func TestNoFunction(t *testing.T) {
	for _, m := range methods() {
		for i, v := range []api.Value{boolean(false), boolean(true), number(0), number(5), number(nan), text(""), text("f"), symbol(5), thing(5)} {
			holdTalk(t, fmt.Sprint(trapName(m), " ", i), filled(m), maker(1), handler, []turn{{getOf(handler, trapName(m)), val(v)}}, refused())
		}
	}
}

// ahead is what each method wants up to its trap's answer: v is given to the call.
func ahead(m uint8, a api.Ask, f, v api.Value) []turn {
	k := text(a.Key.Str)
	if a.Key.Sym > 0 {
		k = symbol(a.Key.Sym - 1)
	}
	made := thing(40)
	l := []turn{{getOf(handler, trapName(m)), val(f)}}
	args := []api.Value{maker(1)}
	switch m {
	case api.SetPrototypeOf:
		args = append(args, a.Value)
	case api.GetOwnProperty, api.HasProperty, api.Delete:
		args = append(args, k)
	case api.DefineOwnProperty:
		l, args = append(l, turn{plainOf(prop("value", loose(number(91)))), val(made)}), append(args, k, made)
	case api.Get:
		args = append(args, k, a.Receiver)
	case api.Set:
		args = append(args, k, a.Value, a.Receiver)
	case api.Call:
		l, args = append(l, turn{arrayOf(a.Args...), val(made)}), append(args, a.Value, made)
	case api.Construct:
		l, args = append(l, turn{arrayOf(a.Args...), val(made)}), append(args, made, a.Value)
	}
	return append(l, turn{callOf(f, handler, args...), val(v)})
}

// holdRow holds what a method wants behind its trap's answer v, and what it ends with.
func holdRow(t *testing.T, m uint8, v api.Value, l []turn, end api.Out) {
	t.Helper()
	a := filled(m)
	holdTalk(t, fmt.Sprint(trapName(m), " ", v), a, maker(1), handler, append(ahead(m, a, f, v), l...), end)
}

// Steps 5 and 6: what is made and called, and what is thrown there.
func TestCalled(t *testing.T) {
	for _, m := range methods() {
		for _, f := range []api.Value{callable(5), maker(6), callable(0)} {
			for _, k := range []api.Key{keyOf("a"), keyOf(""), keyOf("7"), symKey(0), symKey(8), keyOf(long(api.MaxString))} {
				a := filled(m)
				a.Key = k
				l := ahead(m, a, f, null)
				for i := range l {
					short := append([]turn{}, l[:i+1]...)
					short[i].give = thrown(thing(70 + i))
					holdTalk(t, fmt.Sprint(trapName(m), " thrown ", i), a, maker(1), handler, short, thrown(thing(70+i)))
				}
			}
		}
	}
}

// The object that defineProperty is handed.
func TestDescMade(t *testing.T) {
	on, off := loose(boolean(true)), loose(boolean(false))
	for i, c := range []struct {
		d api.Desc
		l []api.Prop
	}{
		{api.Desc{}, nil},
		{api.Desc{Has: 1, Value: undefined}, []api.Prop{prop("value", loose(undefined))}},
		{api.Desc{Has: 1, Value: number(nan)}, []api.Prop{prop("value", loose(number(nan)))}},
		{api.Desc{Has: 2}, []api.Prop{prop("writable", off)}},
		{api.Desc{Has: 2, Writable: true}, []api.Prop{prop("writable", on)}},
		{api.Desc{Has: 4}, []api.Prop{prop("get", loose(undefined))}},
		{api.Desc{Has: 8, Set: callable(6)}, []api.Prop{prop("set", loose(callable(6)))}},
		{api.Desc{Has: 16}, []api.Prop{prop("enumerable", off)}},
		{api.Desc{Has: 16, Enumerable: true}, []api.Prop{prop("enumerable", on)}},
		{api.Desc{Has: 32}, []api.Prop{prop("configurable", off)}},
		{api.Desc{Has: 32, Configurable: true}, []api.Prop{prop("configurable", on)}},
		{api.Desc{Has: 48, Enumerable: true}, []api.Prop{prop("enumerable", on), prop("configurable", off)}},
		{dataOf(text("x"), true, false, true), []api.Prop{prop("value", loose(text("x"))), prop("writable", on), prop("enumerable", off), prop("configurable", on)}},
		{dataOf(thing(8), false, true, false), []api.Prop{prop("value", loose(thing(8))), prop("writable", off), prop("enumerable", on), prop("configurable", off)}},
		{accessOf(callable(7), maker(8), true, true), []api.Prop{prop("get", loose(callable(7))), prop("set", loose(maker(8))), prop("enumerable", on), prop("configurable", on)}},
		{accessOf(undefined, undefined, false, false), []api.Prop{prop("get", loose(undefined)), prop("set", loose(undefined)), prop("enumerable", off), prop("configurable", off)}},
		{api.Desc{Has: 36, Get: maker(7), Configurable: true}, []api.Prop{prop("get", loose(maker(7))), prop("configurable", on)}},
	} {
		a := api.Ask{Method: api.DefineOwnProperty, Key: keyOf("a"), Desc: c.d}
		holdTalk(t, fmt.Sprint(i), a, target, handler, []turn{{getOf(handler, "defineProperty"), val(f)}, {plainOf(c.l...), val(thing(40))}, {callOf(f, handler, target, text("a"), thing(40)), val(null)}}, yes(false))
	}
}

// The array that apply and construct are handed.
func TestArgsMade(t *testing.T) {
	full := make([]api.Value, api.MaxArgs)
	for i := range full {
		full[i] = number(float64(i) - 3)
	}
	for i, l := range [][]api.Value{nil, {}, {undefined}, {number(nan), null, boolean(true), text("x"), symbol(3), thing(4), callable(5), maker(6)}, full} {
		a := api.Ask{Method: api.Call, Value: thing(9), Args: l}
		holdTalk(t, fmt.Sprint(i), a, callable(1), handler, []turn{{getOf(handler, "apply"), val(f)}, {arrayOf(l...), val(thing(40))}, {callOf(f, handler, callable(1), thing(9), thing(40)), val(undefined)}}, val(undefined))
		a = api.Ask{Method: api.Construct, Value: maker(9), Args: l}
		holdTalk(t, fmt.Sprint(i), a, maker(1), handler, []turn{{getOf(handler, "construct"), val(f)}, {arrayOf(l...), val(thing(40))}, {callOf(f, handler, maker(1), thing(40), maker(9)), val(callable(3))}}, val(callable(3)))
	}
}
