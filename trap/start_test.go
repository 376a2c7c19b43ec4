package trap_test

import (
	"fmt"
	"slices"
	"testing"

	"bailiff/api"
	"bailiff/trap"
)

// P16.1

// A beginning is what Start is handed.
type beginning struct {
	ask             api.Ask
	target, handler api.Value
}

func well(m uint8) beginning { return beginning{filled(m), maker(1), thing(2)} }

// holdStart holds a beginning against the error that is told of it.
func holdStart(t *testing.T, name string, b beginning, e api.Errno) {
	t.Helper()
	task, got := trap.Start(b.ask, b.target, b.handler)
	if got != e || (task == nil) != (e != api.OK) {
		t.Errorf("%s: %s: %d, not %d", trapName(b.ask.Method%14), name, got, e)
	}
}

func TestExamplesOfStart(t *testing.T) {
	holdStart(t, "no function", beginning{api.Ask{Method: api.Call}, thing(1), thing(2)}, api.ErrHeap)
	holdStart(t, "no method", beginning{api.Ask{Method: 14}, maker(1), thing(2)}, api.ErrArg)
}

func TestMethods(t *testing.T) {
	for m := range 256 {
		b := well(uint8(m))
		e := api.ErrArg
		if 1 <= m && m <= 13 {
			e = api.OK
		}
		holdStart(t, fmt.Sprint(m), b, e)
	}
}

// A fault is one thing that may not be, in all its shapes, each of which can be put into any beginning of its method.
type fault struct {
	name  string
	e     api.Errno
	spoil []func(b *beginning)
}

func faultOf[T any](name string, e api.Errno, l []T, field func(b *beginning) *T) fault {
	f := fault{name: name, e: e}
	for _, x := range l {
		f.spoil = append(f.spoil, func(b *beginning) { *field(b) = x })
	}
	return f
}

// noParents are values that are neither objects nor null.
func noParents() []api.Value { return append(plains(), undefined) }

// noTargets are values that may not be the target of a method.
func noTargets(m uint8) []api.Value {
	l := append(append(illValues(), plains()...), undefined, null)
	switch m {
	case api.Call:
		l = append(l, thing(1))
	case api.Construct:
		l = append(l, thing(1), callable(1))
	}
	return l
}

// illArgs are lists of values of which one may not be.
func illArgs() [][]api.Value {
	var l [][]api.Value
	for _, v := range illValues() {
		for n := range 3 {
			args := []api.Value{null, thing(3), text("x")}
			args[n] = v
			l = append(l, args)
		}
		most := make([]api.Value, api.MaxArgs)
		most[api.MaxArgs-1] = v
		l = append(l, most)
	}
	return l
}

// faults are what may not be of a method, in the order in which it is looked for.
func faults(m uint8) []fault {
	var l []fault
	if isKeyed(m) {
		l = append(l, faultOf("key", api.ErrHeap, illKeys(), func(b *beginning) *api.Key { return &b.ask.Key }))
	}
	if m == api.DefineOwnProperty {
		l = append(l, faultOf("desc", api.ErrDesc, illDescs(), func(b *beginning) *api.Desc { return &b.ask.Desc }))
	}
	l = append(l, faultOf("value", api.ErrHeap, illValues(), func(b *beginning) *api.Value { return &b.ask.Value }))
	l = append(l, faultOf("receiver", api.ErrHeap, illValues(), func(b *beginning) *api.Value { return &b.ask.Receiver }))
	if m == api.SetPrototypeOf {
		l = append(l, faultOf("no parent", api.ErrHeap, noParents(), func(b *beginning) *api.Value { return &b.ask.Value }))
	}
	args := func(b *beginning) *[]api.Value { return &b.ask.Args }
	tooMany := [][]api.Value{make([]api.Value, api.MaxArgs+1), make([]api.Value, 5000), slices.Repeat(illValues(), 9)}
	return append(l,
		faultOf("many args", api.ErrMany, tooMany, args),
		faultOf("args", api.ErrHeap, illArgs(), args),
		faultOf("target", api.ErrHeap, noTargets(m), func(b *beginning) *api.Value { return &b.target }),
		faultOf("handler", api.ErrHeap, append(illValues(), noParents()...), func(b *beginning) *api.Value { return &b.handler }),
	)
}

// Each thing that may not be, and each two: the one ahead is told.
func TestFaults(t *testing.T) {
	for _, m := range methods() {
		all := faults(m)
		for i, f := range all {
			for j, spoil := range f.spoil {
				b := well(m)
				spoil(&b)
				holdStart(t, fmt.Sprint(f.name, " ", j), b, f.e)
				for _, g := range all[:i] {
					both := b
					g.spoil[j%len(g.spoil)](&both)
					if g.name == "many args" && f.name == "args" || g.name == "value" && f.name == "no parent" {
						continue // one field, where what is put there last holds
					}
					holdStart(t, fmt.Sprint(g.name, " and ", f.name, " ", j), both, g.e)
				}
			}
		}
	}
}

// The order of errors that differ: ErrArg ahead of all, then as they are told.
func TestOrderOfFaults(t *testing.T) {
	b := beginning{api.Ask{Method: api.DefineOwnProperty, Key: illKeys()[0], Desc: illDescs()[0], Value: number(0.5), Args: slices.Repeat(illValues(), 9)}, undefined, undefined}
	for _, m := range []uint8{0, 14, 255} {
		none := b
		none.ask.Method = m
		holdStart(t, "all", none, api.ErrArg)
	}
	holdStart(t, "key", b, api.ErrHeap)
	b.ask.Key = keyOf("a")
	holdStart(t, "desc", b, api.ErrDesc)
	b.ask.Desc = api.Desc{}
	holdStart(t, "value", b, api.ErrHeap)
	b.ask.Value = null
	holdStart(t, "many args", b, api.ErrMany)
	b.ask.Args = b.ask.Args[:3]
	holdStart(t, "args", b, api.ErrHeap)
	b.ask.Args = nil
	holdStart(t, "target", b, api.ErrHeap)
	b.target = thing(1)
	holdStart(t, "handler", b, api.ErrHeap)
	b.handler = null
	holdStart(t, "well", b, api.OK)
}

// What may be: the edges, and what counts for nothing.
func TestMayStart(t *testing.T) {
	full := make([]api.Value, api.MaxArgs)
	values := append(append(truths(), falses()...), number(most), number(-most), text(long(api.MaxString)), symbol(1<<40), thing(1<<40))
	for _, m := range methods() {
		b := well(m)
		b.ask = api.Ask{Method: m, Object: -1, Args: full}
		if m == api.SetPrototypeOf {
			b.ask.Value = null
		}
		holdStart(t, "bare", b, api.OK)
		for _, v := range values {
			b := well(m)
			if m != api.SetPrototypeOf {
				b.ask.Value = v
			}
			b.ask.Receiver = v
			b.ask.Args = []api.Value{v, v}
			holdStart(t, fmt.Sprint(v), b, api.OK)
		}
		for _, v := range things() {
			b := well(m)
			b.ask.Value = v
			b.handler = v
			holdStart(t, fmt.Sprint(v), b, api.OK)
			b.handler, b.target = null, v
			e := api.OK
			if m == api.Call && v.Kind == api.Thing || m == api.Construct && v.Kind != api.Maker {
				e = api.ErrHeap
			}
			holdStart(t, fmt.Sprint("target ", v), b, e)
		}
		for _, k := range []api.Key{{}, keyOf(long(api.MaxString)), symKey(0), symKey(1 << 40)} {
			b := well(m)
			b.ask.Key = k
			holdStart(t, "key", b, api.OK)
		}
		b = well(m)
		if !isKeyed(m) {
			b.ask.Key = illKeys()[0]
		}
		if m != api.DefineOwnProperty {
			b.ask.Desc = illDescs()[0]
		}
		holdStart(t, "what counts for nothing", b, api.OK)
	}
}
