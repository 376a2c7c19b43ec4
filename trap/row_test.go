package trap_test

import (
	"testing"

	"bailiff/api"
)

// P16.2: each row of the table, behind the trap's answer. The target is 1, the key a.

var (
	askExt   = ask(api.IsExtensible, 1)
	askProto = ask(api.GetPrototypeOf, 1)
	askOwn   = askOf(api.GetOwnProperty, 1, keyOf("a"))
	askKeys  = ask(api.OwnKeys, 1)
	lie      = thing(50) // what is thrown
)

// truths and falses are values that are true, and not.
func truths() []api.Value {
	return []api.Value{boolean(true), number(1), number(-7), text("x"), text("0"), text("false"), symbol(0), thing(20), thing(0), callable(21), maker(22)}
}
func falses() []api.Value {
	return []api.Value{undefined, null, boolean(false), number(0), number(nan), text("")}
}
func things() []api.Value { return []api.Value{thing(20), callable(21), maker(22), thing(0)} }
func plains() []api.Value {
	return []api.Value{boolean(false), boolean(true), number(0), number(20), number(nan), text(""), text("null"), symbol(20)}
}

func accessor() api.Desc { return accessOf(undefined, undefined, false, false) }

func TestGetPrototypeOf(t *testing.T) {
	m := api.GetPrototypeOf
	for _, v := range append(plains(), undefined) {
		holdRow(t, m, v, nil, refused())
	}
	for _, v := range append(things(), null) {
		holdRow(t, m, v, []turn{{askExt, yes(true)}}, val(v))
		holdRow(t, m, v, []turn{{askExt, thrown(lie)}}, thrown(lie))
		holdRow(t, m, v, []turn{{askExt, yes(false)}, {askProto, val(v)}}, val(v))
		holdRow(t, m, v, []turn{{askExt, yes(false)}, {askProto, val(thing(23))}}, refused())
		holdRow(t, m, v, []turn{{askExt, yes(false)}, {askProto, thrown(lie)}}, thrown(lie))
	}
	holdRow(t, m, null, []turn{{askExt, yes(false)}, {askProto, val(thing(0))}}, refused())
	holdRow(t, m, thing(20), []turn{{askExt, yes(false)}, {askProto, val(null)}}, refused())
	holdRow(t, m, thing(20), []turn{{askExt, yes(false)}, {askProto, val(callable(20))}}, val(thing(20)))
}

func TestSetPrototypeOf(t *testing.T) {
	m := api.SetPrototypeOf
	for _, v := range falses() {
		holdRow(t, m, v, nil, yes(false))
	}
	for _, v := range truths() {
		holdRow(t, m, v, []turn{{askExt, yes(true)}}, yes(true))
		holdRow(t, m, v, []turn{{askExt, thrown(lie)}}, thrown(lie))
		holdRow(t, m, v, []turn{{askExt, yes(false)}, {askProto, val(thing(92))}}, yes(true))
		holdRow(t, m, v, []turn{{askExt, yes(false)}, {askProto, val(thing(93))}}, refused())
		holdRow(t, m, v, []turn{{askExt, yes(false)}, {askProto, val(null)}}, refused())
		holdRow(t, m, v, []turn{{askExt, yes(false)}, {askProto, thrown(lie)}}, thrown(lie))
	}
}

func TestIsExtensible(t *testing.T) {
	m := api.IsExtensible
	for _, v := range truths() {
		holdRow(t, m, v, []turn{{askExt, yes(true)}}, yes(true))
		holdRow(t, m, v, []turn{{askExt, yes(false)}}, refused())
		holdRow(t, m, v, []turn{{askExt, thrown(lie)}}, thrown(lie))
	}
	for _, v := range falses() {
		holdRow(t, m, v, []turn{{askExt, yes(false)}}, yes(false))
		holdRow(t, m, v, []turn{{askExt, yes(true)}}, refused())
		holdRow(t, m, v, []turn{{askExt, thrown(lie)}}, thrown(lie))
	}
}

func TestPreventExtensions(t *testing.T) {
	m := api.PreventExtensions
	for _, v := range falses() {
		holdRow(t, m, v, nil, yes(false))
	}
	for _, v := range truths() {
		holdRow(t, m, v, []turn{{askExt, yes(false)}}, yes(true))
		holdRow(t, m, v, []turn{{askExt, yes(true)}}, refused())
		holdRow(t, m, v, []turn{{askExt, thrown(lie)}}, thrown(lie))
	}
}

// Of getOwnPropertyDescriptor what is no object; how one is read, stands elsewhere.
func TestGetOwnProperty(t *testing.T) {
	m := api.GetOwnProperty
	for _, v := range append(plains(), null) {
		holdRow(t, m, v, nil, refused())
	}
	holdRow(t, m, undefined, []turn{{askOwn, thrown(lie)}}, thrown(lie))
	holdRow(t, m, undefined, []turn{{askOwn, none()}}, none())
	for _, d := range []api.Desc{fixed(null), written(null), accessor(), dataOf(null, false, true, false)} {
		holdRow(t, m, undefined, []turn{{askOwn, found(d)}}, refused())
	}
	for _, d := range []api.Desc{loose(null), dataOf(number(1), false, false, true), accessOf(undefined, callable(7), false, true)} {
		holdRow(t, m, undefined, []turn{{askOwn, found(d)}, {askExt, yes(true)}}, none())
		holdRow(t, m, undefined, []turn{{askOwn, found(d)}, {askExt, yes(false)}}, refused())
		holdRow(t, m, undefined, []turn{{askOwn, found(d)}, {askExt, thrown(lie)}}, thrown(lie))
	}
	for _, v := range things() {
		for _, o := range []api.Out{none(), found(fixed(null)), found(loose(null)), found(accessor())} {
			holdRow(t, m, v, []turn{{askOwn, thrown(lie)}}, thrown(lie))
			holdRow(t, m, v, []turn{{askOwn, o}, {askExt, thrown(lie)}}, thrown(lie))
			holdRow(t, m, v, []turn{{askOwn, o}, {askExt, yes(true)}, {hasOf(v, "enumerable"), thrown(lie)}}, thrown(lie))
			holdRow(t, m, v, []turn{{askOwn, o}, {askExt, yes(false)}, {hasOf(v, "enumerable"), thrown(lie)}}, thrown(lie))
		}
	}
}

// The ask's Desc is Value 91 alone.
func TestDefineOwnProperty(t *testing.T) {
	m := api.DefineOwnProperty
	for _, v := range falses() {
		holdRow(t, m, v, nil, yes(false))
	}
	for _, v := range truths() {
		holdRow(t, m, v, []turn{{askOwn, thrown(lie)}}, thrown(lie))
		for _, o := range []api.Out{none(), found(fixed(null)), found(loose(null))} {
			holdRow(t, m, v, []turn{{askOwn, o}, {askExt, thrown(lie)}}, thrown(lie))
		}
		holdRow(t, m, v, []turn{{askOwn, none()}, {askExt, yes(true)}}, yes(true))
		holdRow(t, m, v, []turn{{askOwn, none()}, {askExt, yes(false)}}, refused())
		for _, ext := range []bool{false, true} {
			holdRow(t, m, v, []turn{{askOwn, found(loose(null))}, {askExt, yes(ext)}}, yes(true))
			holdRow(t, m, v, []turn{{askOwn, found(written(null))}, {askExt, yes(ext)}}, yes(true))
			holdRow(t, m, v, []turn{{askOwn, found(fixed(number(91)))}, {askExt, yes(ext)}}, yes(true))
			holdRow(t, m, v, []turn{{askOwn, found(fixed(number(7)))}, {askExt, yes(ext)}}, refused())
			holdRow(t, m, v, []turn{{askOwn, found(accessor())}, {askExt, yes(ext)}}, refused())
		}
	}
}

// What is fixing may not be told of what is not fixed.
func TestDefineFixing(t *testing.T) {
	a := api.Ask{Method: api.DefineOwnProperty, Key: keyOf("a"), Desc: api.Desc{Has: api.HasConfigurable}}
	for _, c := range []struct {
		o    api.Out
		well bool
	}{{none(), false}, {found(loose(null)), false}, {found(fixed(null)), true}, {found(written(null)), true}} {
		end := refused()
		if c.well {
			end = yes(true)
		}
		holdTalk(t, "fixing", a, target, handler, []turn{{getOf(handler, "defineProperty"), val(f)}, {plainOf(prop("configurable", loose(boolean(false)))), val(thing(40))}, {callOf(f, handler, target, text("a"), thing(40)), val(boolean(true))}, {askOwn, c.o}, {askExt, yes(true)}}, end)
	}
}

func TestHasProperty(t *testing.T) {
	m := api.HasProperty
	for _, v := range truths() {
		holdRow(t, m, v, nil, yes(true))
	}
	for _, v := range falses() {
		holdGone(t, m, v, yes(false))
	}
}

// holdGone holds the row of an answer v by which there is no property: well is its end where that is no lie.
func holdGone(t *testing.T, m uint8, v api.Value, well api.Out) {
	t.Helper()
	holdRow(t, m, v, []turn{{askOwn, thrown(lie)}}, thrown(lie))
	holdRow(t, m, v, []turn{{askOwn, none()}}, well)
	for _, d := range []api.Desc{fixed(null), written(null), accessor()} {
		holdRow(t, m, v, []turn{{askOwn, found(d)}}, refused())
	}
	for _, d := range []api.Desc{loose(null), accessOf(undefined, undefined, false, true)} {
		holdRow(t, m, v, []turn{{askOwn, found(d)}, {askExt, yes(true)}}, well)
		holdRow(t, m, v, []turn{{askOwn, found(d)}, {askExt, yes(false)}}, refused())
		holdRow(t, m, v, []turn{{askOwn, found(d)}, {askExt, thrown(lie)}}, thrown(lie))
	}
}

func TestGet(t *testing.T) {
	m := api.Get
	for _, v := range append(append(truths(), falses()...), symbol(3), maker(3)) {
		holdRow(t, m, v, []turn{{askOwn, thrown(lie)}}, thrown(lie))
		for _, o := range []api.Out{none(), found(loose(number(55))), found(written(number(55))), found(fixed(v)), found(accessOf(callable(7), undefined, true, false)), found(accessOf(undefined, undefined, true, true))} {
			holdRow(t, m, v, []turn{{askOwn, o}}, val(v))
		}
		holdRow(t, m, v, []turn{{askOwn, found(fixed(number(55)))}}, refused())
		end := refused()
		if v == undefined {
			end = val(v)
		}
		holdRow(t, m, v, []turn{{askOwn, found(accessOf(undefined, callable(7), true, false))}}, end)
	}
}

// The ask's Value is 92.
func TestSet(t *testing.T) {
	m := api.Set
	for _, v := range falses() {
		holdRow(t, m, v, nil, yes(false))
	}
	for _, v := range truths() {
		holdRow(t, m, v, []turn{{askOwn, thrown(lie)}}, thrown(lie))
		for _, o := range []api.Out{none(), found(loose(number(55))), found(written(number(55))), found(fixed(number(92))), found(accessOf(undefined, callable(7), true, false)), found(accessOf(callable(7), undefined, true, true))} {
			holdRow(t, m, v, []turn{{askOwn, o}}, yes(true))
		}
		holdRow(t, m, v, []turn{{askOwn, found(fixed(number(55)))}}, refused())
		holdRow(t, m, v, []turn{{askOwn, found(accessOf(callable(7), undefined, true, false))}}, refused())
	}
}

func TestDelete(t *testing.T) {
	m := api.Delete
	for _, v := range falses() {
		holdRow(t, m, v, nil, yes(false))
	}
	for _, v := range truths() {
		holdGone(t, m, v, yes(true))
	}
}

// Of ownKeys what is no object, and an object without keys; how keys are read, stands elsewhere.
func TestOwnKeys(t *testing.T) {
	m := api.OwnKeys
	for _, v := range append(plains(), undefined, null) {
		holdRow(t, m, v, nil, refused())
	}
	for _, v := range things() {
		read := turn{getOf(v, "length"), val(number(0))}
		holdRow(t, m, v, []turn{{getOf(v, "length"), thrown(lie)}}, thrown(lie))
		holdRow(t, m, v, []turn{read, {askExt, thrown(lie)}}, thrown(lie))
		for _, ext := range []bool{false, true} {
			all := []turn{read, {askExt, yes(ext)}, {askKeys, told("b", "a", "@")}, {askOwn, none()}, {askOwn, none()}, {askOf(api.GetOwnProperty, 1, symKey(0)), none()}}
			all[3].want = askOf(api.GetOwnProperty, 1, keyOf("b"))
			for i := 2; i < len(all); i++ {
				short := append([]turn{}, all[:i+1]...)
				short[i].give = thrown(lie)
				holdRow(t, m, v, short, thrown(lie))
			}
			holdRow(t, m, v, []turn{read, {askExt, yes(ext)}, {askKeys, told()}}, told())
			end := refused() // keys are missing
			if ext {
				end = told()
			}
			holdRow(t, m, v, all, end)
			all[3].give, all[5].give = found(loose(null)), found(accessOf(undefined, undefined, true, true))
			holdRow(t, m, v, all, end)
			all[4].give = found(written(null))
			holdRow(t, m, v, all, refused())
		}
	}
}

func TestCall(t *testing.T) {
	for _, v := range append(append(truths(), falses()...), plains()...) {
		holdRow(t, api.Call, v, nil, val(v))
	}
}

func TestConstruct(t *testing.T) {
	for _, v := range things() {
		holdRow(t, api.Construct, v, nil, val(v))
	}
	for _, v := range append(plains(), undefined, null) {
		holdRow(t, api.Construct, v, nil, refused())
	}
}
