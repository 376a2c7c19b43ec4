package trap_test

import (
	"fmt"
	"slices"
	"testing"

	"bailiff/api"
)

// P16.2: how an answer is read as a descriptor, and as keys.

// the fields, in the order in which they are read
func fieldNames() []string {
	return []string{"enumerable", "configurable", "value", "writable", "get", "set"}
}

// A had is what an object has of a field, if it has it.
type had struct {
	name string
	v    api.Value
}

// readDesc is what is wanted of v where it has these fields, up to the last one.
func readDesc(v api.Value, last string, l ...had) []turn {
	var out []turn
	for _, name := range fieldNames() {
		i := slices.IndexFunc(l, func(h had) bool { return h.name == name })
		out = append(out, turn{hasOf(v, name), yes(i >= 0)})
		if i >= 0 {
			out = append(out, turn{getOf(v, name), val(l[i].v)})
		}
		if name == last {
			break
		}
	}
	return out
}

// holdRead holds an answer of getOwnPropertyDescriptor that has these fields, against what the target tells.
func holdRead(t *testing.T, own api.Out, ext bool, end api.Out, l ...had) {
	t.Helper()
	for _, v := range things() {
		turns := append([]turn{{askOwn, own}, {askExt, yes(ext)}}, readDesc(v, "", l...)...)
		holdRow(t, api.GetOwnProperty, v, turns, end)
	}
}

func TestDescRead(t *testing.T) {
	on, off := boolean(true), boolean(false)
	open := had{"configurable", on}
	for _, c := range []struct {
		l []had
		d api.Desc
	}{
		{[]had{open}, dataOf(undefined, false, false, true)},
		{[]had{open, {"enumerable", on}}, dataOf(undefined, false, true, true)},
		{[]had{open, {"enumerable", off}}, dataOf(undefined, false, false, true)},
		{[]had{open, {"value", number(7)}}, dataOf(number(7), false, false, true)},
		{[]had{open, {"value", undefined}, {"writable", on}}, dataOf(undefined, true, false, true)},
		{[]had{open, {"value", thing(20)}, {"writable", off}, {"enumerable", on}}, dataOf(thing(20), false, true, true)},
		{[]had{open, {"get", callable(7)}}, accessOf(callable(7), undefined, false, true)},
		{[]had{open, {"get", undefined}}, accessOf(undefined, undefined, false, true)},
		{[]had{open, {"set", maker(7)}}, accessOf(undefined, maker(7), false, true)},
		{[]had{open, {"set", undefined}, {"enumerable", on}}, accessOf(undefined, undefined, true, true)},
		{[]had{open, {"get", maker(8)}, {"set", callable(7)}, {"enumerable", on}}, accessOf(maker(8), callable(7), true, true)},
	} {
		holdRead(t, none(), true, found(c.d), c.l...)
		holdRead(t, found(loose(null)), false, found(c.d), c.l...)
		holdRead(t, found(accessOf(undefined, callable(7), true, true)), true, found(c.d), c.l...)
		holdRead(t, none(), false, refused(), c.l...)
		holdRead(t, found(fixed(null)), true, refused(), c.l...)
	}
}

// Flags are what they are as booleans; a Value is as it comes.
func TestFlagsRead(t *testing.T) {
	for _, v := range append(append(truths(), falses()...), symbol(5)) {
		is := slices.Contains(truths(), v) || v == symbol(5)
		holdRead(t, none(), true, found(dataOf(undefined, false, is, true)), had{"enumerable", v}, had{"configurable", boolean(true)})
		holdRead(t, none(), true, found(dataOf(undefined, is, false, true)), had{"writable", v}, had{"configurable", boolean(true)})
		holdRead(t, none(), true, found(dataOf(v, false, false, true)), had{"value", v}, had{"configurable", boolean(true)})
		end := refused()
		if is {
			end = found(dataOf(undefined, false, false, true))
		}
		holdRead(t, none(), true, end, had{"configurable", v})
	}
}

// What is told to be fixed must be so, and as far.
func TestDescHeld(t *testing.T) {
	seven := []had{{"value", number(7)}}
	holdRead(t, none(), true, refused(), seven...)
	holdRead(t, none(), true, refused())
	holdRead(t, found(loose(number(7))), true, refused(), seven...)
	holdRead(t, found(fixed(number(7))), true, found(fixed(number(7))), seven...)
	holdRead(t, found(fixed(number(7))), false, found(fixed(number(7))), append(seven, had{"writable", text("")})...)
	holdRead(t, found(fixed(number(8))), true, refused(), seven...)
	holdRead(t, found(fixed(number(7))), true, refused(), append(seven, had{"enumerable", number(1)})...)
	holdRead(t, found(written(number(7))), true, refused(), seven...)
	holdRead(t, found(written(number(8))), true, found(written(number(7))), append(seven, had{"writable", number(1)})...)
	holdRead(t, found(accessor()), true, found(accessor()), had{"get", undefined})
	holdRead(t, found(accessor()), true, refused(), had{"get", callable(7)})
	holdRead(t, found(accessor()), true, refused(), seven...)
}

// A Get or Set that can't be called is refused at once; undefined is well.
func TestDoersRead(t *testing.T) {
	bad := append(plains(), null, thing(20), symbol(0))
	for _, name := range []string{"get", "set"} {
		for _, v := range bad {
			for _, more := range [][]had{nil, {{"value", number(7)}, {"enumerable", boolean(true)}}, {{"get", callable(7)}}} {
				l := append(slices.Clone(more), had{name, v})
				if name == "get" {
					l = append([]had{{name, v}}, more[:min(len(more), 2)]...)
				}
				turns := append([]turn{{askOwn, none()}, {askExt, yes(true)}}, readDesc(thing(20), name, l...)...)
				holdRow(t, api.GetOwnProperty, thing(20), turns, refused())
			}
		}
	}
}

// One that is both is refused, but when all is read.
func TestBothRead(t *testing.T) {
	for _, data := range []had{{"value", number(7)}, {"value", undefined}, {"writable", boolean(true)}, {"writable", undefined}} {
		for _, access := range []had{{"get", callable(7)}, {"get", undefined}, {"set", callable(7)}, {"set", undefined}} {
			for _, own := range []api.Out{none(), found(loose(null)), found(accessOf(undefined, undefined, true, true))} {
				holdRead(t, own, true, refused(), data, access, had{"configurable", boolean(true)})
				holdRead(t, own, false, refused(), access, data)
			}
		}
	}
}

// What is thrown while a descriptor is read.
func TestDescThrown(t *testing.T) {
	l := []had{{"enumerable", null}, {"configurable", null}, {"value", null}, {"writable", null}, {"get", undefined}, {"set", undefined}}
	for _, some := range [][]had{nil, l} {
		turns := append([]turn{{askOwn, none()}, {askExt, yes(true)}}, readDesc(thing(20), "", some...)...)
		for i := range turns {
			short := slices.Clone(turns[:i+1])
			short[i].give = thrown(number(float64(i)))
			holdRow(t, api.GetOwnProperty, thing(20), short, short[i].give)
		}
	}
}

// readKeys is what is wanted of v where it is a list of these.
func readKeys(v api.Value, l ...api.Value) []turn {
	out := []turn{{getOf(v, "length"), val(number(float64(len(l))))}}
	for i, x := range l {
		out = append(out, turn{getOf(v, fmt.Sprint(i)), val(x)})
	}
	return out
}

// theirs is what is wanted of the target behind that: its keys, and of each one the same.
func theirs(ext bool, l []api.Key, own api.Out) []turn {
	out := []turn{{askExt, yes(ext)}, {askKeys, api.Out{Kind: api.Done, Keys: l}}}
	for _, k := range l {
		out = append(out, turn{askOf(api.GetOwnProperty, 1, k), own})
	}
	return out
}

func TestKeysRead(t *testing.T) {
	for _, v := range things() {
		for _, c := range []struct {
			l    []api.Value
			keys []api.Key
		}{
			{nil, nil},
			{[]api.Value{text("a")}, keysOf("a")},
			{[]api.Value{symbol(0), text("b"), text("1"), text("a"), symbol(4), text("0"), text("")}, append(keysOf("@", "b", "1", "a"), symKey(4), keyOf("0"), keyOf(""))},
			{[]api.Value{text("symbol 0"), symbol(0), text("length"), text(long(api.MaxString))}, []api.Key{keyOf("symbol 0"), symKey(0), keyOf("length"), keyOf(long(api.MaxString))}},
		} {
			end := api.Out{Kind: api.Done, Keys: c.keys}
			read := readKeys(v, c.l...)
			holdRow(t, api.OwnKeys, v, append(slices.Clone(read), theirs(true, nil, none())...), end)
			holdRow(t, api.OwnKeys, v, append(slices.Clone(read), theirs(false, c.keys, found(loose(null)))...), end)
			holdRow(t, api.OwnKeys, v, append(slices.Clone(read), theirs(true, c.keys, found(fixed(null)))...), end)
			back := slices.Clone(c.keys)
			slices.Reverse(back)
			holdRow(t, api.OwnKeys, v, append(slices.Clone(read), theirs(false, back, none())...), end)
			more := append(slices.Clone(c.keys), keyOf("more"))
			holdRow(t, api.OwnKeys, v, append(slices.Clone(read), theirs(false, more, none())...), refused())
			holdRow(t, api.OwnKeys, v, append(slices.Clone(read), theirs(true, more, found(fixed(null)))...), refused())
			holdRow(t, api.OwnKeys, v, append(slices.Clone(read), theirs(true, more, found(loose(null)))...), end)
			if len(c.keys) > 0 {
				holdRow(t, api.OwnKeys, v, append(slices.Clone(read), theirs(false, c.keys[1:], none())...), refused())
			}
		}
	}
}

// The length, which is no number, no whole one, or none from 0 to MaxProps.
func TestLengthRead(t *testing.T) {
	v := thing(20)
	for _, x := range []api.Value{undefined, null, boolean(true), boolean(false), text("1"), text(""), symbol(1), thing(1), callable(1), maker(1)} {
		holdRow(t, api.OwnKeys, v, []turn{{getOf(v, "length"), val(x)}}, refused())
	}
	for _, x := range []float64{nan, -1, -2, -most, api.MaxProps + 1, 1 << 32, 1<<32 + 1, most} {
		holdRow(t, api.OwnKeys, v, []turn{{getOf(v, "length"), val(number(x))}}, tooMany())
	}
}

// As many keys as may be.
func TestMostKeys(t *testing.T) {
	v := thing(20)
	var l []api.Value
	var keys []api.Key
	for i := range api.MaxProps {
		l, keys = append(l, text(fmt.Sprint("k", i))), append(keys, keyOf(fmt.Sprint("k", i)))
	}
	read := readKeys(v, l...)
	holdRow(t, api.OwnKeys, v, append(slices.Clone(read), theirs(true, nil, none())...), api.Out{Kind: api.Done, Keys: keys})
	holdRow(t, api.OwnKeys, v, append(slices.Clone(read), theirs(false, keys, found(fixed(null)))...), api.Out{Kind: api.Done, Keys: keys})
	read[api.MaxProps].give = val(text("k0"))
	holdRow(t, api.OwnKeys, v, read, refused())
}

// An element that is neither a string nor a symbol is refused at once.
func TestElementsRead(t *testing.T) {
	v := thing(20)
	for _, x := range []api.Value{undefined, null, boolean(true), number(0), number(nan), thing(21), callable(22), maker(23)} {
		for n := range 3 {
			l := []api.Value{text("a"), symbol(0), text("a")}
			l[n] = x
			holdRow(t, api.OwnKeys, v, readKeys(v, l...)[:n+2], refused())
		}
	}
	for n := range 4 {
		turns := readKeys(v, text("a"), symbol(0), text("b"))[:n+1]
		turns[n].give = thrown(lie)
		holdRow(t, api.OwnKeys, v, turns, thrown(lie))
	}
}

// A key twice is refused, but when all are read, and ahead of what the target tells.
func TestTwiceRead(t *testing.T) {
	v := thing(20)
	for _, l := range [][]api.Value{{text("a"), text("a")}, {symbol(1), text("a"), symbol(1)}, {text("a"), text("b"), text("b"), text("c")}, {text(""), text("")}, {text("a"), text("a"), text("a")}} {
		holdRow(t, api.OwnKeys, v, readKeys(v, l...), refused())
	}
	holdRow(t, api.OwnKeys, v, append(readKeys(v, text("0"), symbol(0), text("00"), text("1")), theirs(true, nil, none())...), api.Out{Kind: api.Done, Keys: append(keysOf("0", "@"), keyOf("00"), keyOf("1"))})
}

// What the target can't tell is never delivered: a key twice is refused, when of each one its property was asked for.
func TestTwiceTold(t *testing.T) {
	v := thing(20)
	for _, ext := range []bool{false, true} {
		for _, own := range []api.Out{none(), found(loose(null)), found(fixed(null))} {
			holdRow(t, api.OwnKeys, v, append(readKeys(v, text("a")), theirs(ext, keysOf("a", "a"), own)...), refused())
			holdRow(t, api.OwnKeys, v, append(readKeys(v, text("a"), symbol(1)), theirs(ext, keysOf("@@", "a", "@@"), own)...), refused())
		}
	}
}
