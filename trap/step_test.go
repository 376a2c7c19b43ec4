package trap_test

import (
	"fmt"
	"slices"
	"testing"

	"bailiff/api"
	"bailiff/trap"
)

// P16.2: a machine that waits.

// illOuts may not be given, whatever was wanted.
func illOuts() []api.Out {
	l := []api.Out{{}, fail(api.TypeError, "type"), {Kind: api.Fail}, {Kind: 4}, {Kind: 77, Value: null}, {Kind: 255, Bool: true}, {Value: callable(5), Bool: true}}
	for _, kind := range []uint8{api.Done, api.Throw} {
		for _, v := range illValues() {
			l = append(l, api.Out{Kind: kind, Value: v})
		}
		for _, d := range illDescs() {
			l = append(l, api.Out{Kind: kind, Value: callable(5), Found: true, Desc: d}, api.Out{Kind: kind, Desc: d})
		}
		for _, k := range illKeys() {
			l = append(l, api.Out{Kind: kind, Value: callable(5), Keys: []api.Key{k}}, api.Out{Kind: kind, Keys: append(keysOf("a", "b"), k)})
		}
	}
	return l
}

// longTalks are talks that lead through all steps.
func longTalks() map[string][]turn {
	v := thing(20)
	desc := []had{{"configurable", boolean(true)}, {"value", number(7)}}
	access := []had{{"configurable", boolean(true)}, {"get", callable(7)}, {"set", undefined}}
	keys := append(readKeys(v, text("a"), symbol(1)), theirs(false, keysOf("@@", "a"), found(fixed(null)))...)
	behind := map[uint8][][]turn{
		api.GetPrototypeOf:    {{{askExt, yes(false)}, {askProto, val(v)}}},
		api.SetPrototypeOf:    {{{askExt, yes(false)}, {askProto, val(thing(92))}}},
		api.IsExtensible:      {{{askExt, yes(true)}}},
		api.PreventExtensions: {{{askExt, yes(false)}}},
		api.GetOwnProperty:    {append([]turn{{askOwn, none()}, {askExt, yes(true)}}, readDesc(v, "", desc...)...), append([]turn{{askOwn, none()}, {askExt, yes(true)}}, readDesc(v, "", access...)...)},
		api.DefineOwnProperty: {{{askOwn, found(loose(null))}, {askExt, yes(true)}}},
		api.HasProperty:       {nil},
		api.Get:               {{{askOwn, none()}}},
		api.Set:               {{{askOwn, none()}}},
		api.Delete:            {{{askOwn, found(loose(null))}, {askExt, yes(true)}}},
		api.OwnKeys:           {keys},
		api.Call:              {nil},
		api.Construct:         {nil},
	}
	l := map[string][]turn{}
	for _, m := range methods() {
		for i, turns := range behind[m] {
			l[fmt.Sprint(string('a'+rune(m)), i)] = append(ahead(m, filled(m), f, v), turns...)
		}
		again := filled(m)
		again.Object = 1
		l[fmt.Sprint(string('a'+rune(m)), "none")] = []turn{{getOf(handler, trapName(m)), val(undefined)}, {api.Want{Kind: api.WantMethod, Ask: again}, none()}}
	}
	return l
}

// methodOf is the method of a talk, by its name.
func methodOf(name string) uint8 { return name[0] - 'a' }

// lead leads a Task through a talk up to the turn n, where it has told what it wants.
func lead(t *testing.T, name string, l []turn, n int) *trap.Task {
	t.Helper()
	task := begin(t, name, filled(methodOf(name)), maker(1), handler)
	o := api.Out{}
	for i := range n + 1 {
		next(t, name, task, o, l[i].want)
		o = l[i].give
	}
	return task
}

// What may not be given is ErrStep at each step, and changes nothing: what may is taken then.
func TestIllGiven(t *testing.T) {
	ill := illOuts()
	for name, l := range longTalks() {
		for n := range l {
			task := lead(t, name, l, n)
			for _, o := range ill {
				if w, e := task.Next(o); e != api.ErrStep || !sameWant(w, api.Want{}) {
					t.Errorf("%s %d: given %s: %s (%d)", name, n, showOut(o), showWant(w), e)
				}
			}
			if n+1 < len(l) {
				next(t, name, task, l[n].give, l[n+1].want)
				continue
			}
			if w, e := task.Next(l[n].give); e != api.OK || w.Kind != api.WantEnd || w.Out.Kind != api.Done {
				t.Error(name, showWant(w), e)
			}
			for _, o := range ill {
				if w, e := task.Next(o); e != api.ErrStep || !sameWant(w, api.Want{}) {
					t.Errorf("%s: behind the end: %s (%d)", name, showWant(w), e)
				}
			}
		}
	}
}

// What is thrown at any step is the end.
func TestThrown(t *testing.T) {
	for name, l := range longTalks() {
		for n := range l {
			for _, v := range []api.Value{undefined, null, boolean(false), number(nan), text("x"), symbol(3), thing(60), callable(61), maker(62)} {
				task := lead(t, name, l, n)
				next(t, name, task, thrown(v), endOf(thrown(v)))
				holdEnded(t, name, task)
			}
		}
	}
}

// The first Next looks at nothing.
func TestFirstNext(t *testing.T) {
	for name, l := range longTalks() {
		for _, o := range append(illOuts(), none(), thrown(null), val(callable(5)), found(fixed(null)), told("a", "a")) {
			task := begin(t, name, filled(methodOf(name)), maker(1), handler)
			next(t, name, task, o, l[0].want)
			next(t, name, task, thrown(lie), endOf(thrown(lie)))
			task = begin(t, name, filled(methodOf(name)), maker(1), null)
			next(t, name, task, o, endOf(refused()))
			holdEnded(t, name, task)
		}
	}
}

func TestNoTask(t *testing.T) {
	for _, task := range []*trap.Task{nil, {}, new(trap.Task)} {
		for _, o := range append(illOuts(), none(), thrown(null), val(callable(5))) {
			for range 2 {
				if w, e := task.Next(o); e != api.ErrNil || !sameWant(w, api.Want{}) {
					t.Error(showWant(w), e)
				}
			}
		}
	}
}

// Tasks go on by themselves: two under way at once, step by step, tell what each tells alone.
func TestTwoTasks(t *testing.T) {
	all := longTalks()
	for a, l := range all {
		for b, k := range all {
			first, second := begin(t, a, filled(methodOf(a)), maker(1), handler), begin(t, b, filled(methodOf(b)), maker(1), handler)
			o, p := none(), none()
			for i := range min(len(l), len(k)) {
				if !next(t, a, first, o, l[i].want) || !next(t, b, second, p, k[i].want) {
					return
				}
				o, p = l[i].give, k[i].give
			}
		}
	}
}

// What is given has no more than what was wanted: what else stands there, and may be, counts for nothing.
func TestMoreGiven(t *testing.T) {
	for name, l := range longTalks() {
		if name[1:] == "none" {
			continue // there what is given is the end
		}
		task := begin(t, name, filled(methodOf(name)), maker(1), handler)
		plain := begin(t, name, filled(methodOf(name)), maker(1), handler)
		o := none()
		for i := range l {
			next(t, name, task, noisy(l, i, o), l[i].want)
			next(t, name, plain, o, l[i].want)
			o = l[i].give
		}
		want, _ := plain.Next(o)
		next(t, name, task, noisy(l, len(l), o), want)
	}
}

// noisy is what is given at turn i, with more in it than the want ahead of it asks for.
func noisy(l []turn, i int, o api.Out) api.Out {
	if i == 0 {
		return o
	}
	return withNoise(l[i-1].want, o)
}

// withNoise puts something that may be into all fields of an Out that the want doesn't ask for.
func withNoise(w api.Want, o api.Out) api.Out {
	n := api.Out{Kind: o.Kind, Value: thing(33), Bool: !o.Bool, Found: true, Desc: fixed(text("noise")), Keys: keysOf("noise", "a", "@", "noise")}
	switch m := w.Ask.Method; {
	case o.Kind == api.Throw, w.Kind != api.WantMethod, m == api.Get, m == api.GetPrototypeOf:
		n.Value = o.Value
	case m == api.GetOwnProperty:
		n.Found = o.Found
		if o.Found {
			n.Desc = o.Desc
		}
	case m == api.OwnKeys:
		n.Keys = slices.Clone(o.Keys)
	default:
		n.Bool = o.Bool
	}
	return n
}
