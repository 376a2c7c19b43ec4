package trap_test

import (
	"fmt"
	"testing"

	"bailiff/api"
	"bailiff/heap"
	"bailiff/ordinary"
	"bailiff/trap"
)

// P16.4

// How much is wanted: three things at most of get, five and two for each key of ownKeys.
func TestHowMany(t *testing.T) {
	for _, m := range methods() {
		most := 0
		ways(filled(m), maker(1), thing(2), func(p *proxy, end api.Out) {
			task := begin(t, "count", p.ask, p.target, p.handler)
			w, e := task.Next(none())
			n, keys, theirs := 0, 0, 0
			for ; e == api.OK && w.Kind != api.WantEnd; n++ {
				o := p.turns[n].give
				switch {
				case w.Ask.Key == keyOf("length") && o.Kind == api.Done:
					keys = max(0, int(o.Value.Num))
				case w.Ask.Method == api.OwnKeys && w.Ask.Object == 1:
					theirs = len(o.Keys)
				}
				w, e = task.Next(o)
			}
			if e != api.OK || n != len(p.turns) || m == api.OwnKeys && n > 5+keys+theirs {
				t.Fatal(trapName(m), n, e)
			}
			most = max(most, n)
		})
		if want := []int{0, 4, 4, 3, 3, 16, 5, 4, 3, 3, 4, 11, 3, 3}[m]; most != want {
			t.Error(trapName(m), "wants", most, "things, not", want)
		}
	}
}

// W5: a TypeError just where the target, asked itself, says otherwise. A handler whose traps answer what the target does is never refused: an honest one.

// A world is a heap in which the target stands, and what stands behind the objects that the honest traps answer.
type world struct {
	t      *testing.T
	heap   api.Heap
	target int
	ask    api.Ask
	made   api.Object // the last new object that was wanted
	answer api.Object // what stands behind the object 900
	done   api.Out    // what the target answered to the trap
	notrap bool
}

const handlerNumber, madeNumber, answerNumber = 800, 850, 900

// do does what is asked of the target.
func (w *world) do(a api.Ask) api.Out {
	a.Object = w.target
	after, out, e := ordinary.Do(w.heap, a)
	if e != api.OK {
		w.t.Fatal(trapName(a.Method), e)
	}
	w.heap = after
	return out
}

// serve does what is wanted.
func (w *world) serve(x api.Want) api.Out {
	a := x.Ask
	switch {
	case x.Kind == api.WantNew:
		w.made = x.Object
		return val(thing(madeNumber))
	case x.Kind == api.WantCall:
		return val(w.honest())
	case a.Object == handlerNumber && w.notrap:
		return val(undefined)
	case a.Object == handlerNumber:
		return val(callable(801))
	case a.Object == answerNumber:
		return w.read(a)
	}
	return w.do(a)
}

// read tells what an object has that an honest trap answered.
func (w *world) read(a api.Ask) api.Out {
	for _, p := range w.answer.Props {
		if p.Key == a.Key {
			return api.Out{Kind: api.Done, Bool: true, Value: p.Desc.Value}
		}
	}
	return yes(false)
}

// honest is a trap that does what it is asked with the target, and answers what that does.
func (w *world) honest() api.Value {
	a := w.ask
	if a.Method == api.DefineOwnProperty {
		a.Desc = descOf(w.made)
	}
	w.done = w.do(a)
	switch a.Method {
	case api.GetPrototypeOf:
		return w.done.Value
	case api.GetOwnProperty:
		if !w.done.Found {
			return undefined
		}
		w.answer = api.Object{Props: propsOf(w.done.Desc)}
		return thing(answerNumber)
	case api.OwnKeys:
		w.answer = api.Object{Props: []api.Prop{prop("length", loose(number(float64(len(w.done.Keys)))))}}
		for i, k := range w.done.Keys {
			v := text(k.Str)
			if k.Sym > 0 {
				v = symbol(k.Sym - 1)
			}
			w.answer.Props = append(w.answer.Props, prop(fmt.Sprint(i), loose(v)))
		}
		return thing(answerNumber)
	}
	return boolean(w.done.Bool)
}

// descOf reads an object that was wanted as the descriptor that it is to tell.
func descOf(o api.Object) api.Desc {
	var d api.Desc
	for _, p := range o.Props {
		v := p.Desc.Value
		switch p.Key.Str {
		case "value":
			d.Has, d.Value = d.Has|1, v
		case "writable":
			d.Has, d.Writable = d.Has|2, truth(v)
		case "get":
			d.Has, d.Get = d.Has|4, v
		case "set":
			d.Has, d.Set = d.Has|8, v
		case "enumerable":
			d.Has, d.Enumerable = d.Has|16, truth(v)
		case "configurable":
			d.Has, d.Configurable = d.Has|32, truth(v)
		}
	}
	return d
}

// run leads a Task to its end.
func (w *world) run() api.Out {
	task, e := trap.Start(w.ask, thing(w.target), thing(handlerNumber))
	x, next := api.Want{}, none()
	for e == api.OK {
		if x, e = task.Next(next); x.Kind == api.WantEnd {
			return x.Out
		}
		next = w.serve(x)
	}
	w.t.Fatal(trapName(w.ask.Method), e)
	return api.Out{}
}

// targets are heaps whose object 2 is of all sorts; 0 and 1 are others, and 3 a function.
func targets(t *testing.T) []api.Heap {
	var l []api.Heap
	for _, ext := range []bool{true, false} {
		for _, proto := range []api.Value{null, thing(1)} {
			for _, d := range append(theirDescsOf(maker(3)), api.Desc{}) {
				o := api.Object{Kind: api.Plain, Proto: proto, Ext: ext, Props: []api.Prop{{Key: symKey(2), Desc: loose(null)}, prop("b", fixed(text("b")))}}
				if d.Has != 0 {
					o.Props = append(o.Props, prop("a", d))
				}
				open := api.Object{Kind: api.Plain, Proto: null, Ext: true}
				h := api.Heap{Objects: []api.Object{open, open, o, {Kind: api.Function, Proto: null, Ext: true, Calls: true, Makes: true}}}
				if e := heap.Check(h); e != api.OK {
					t.Fatal(e)
				}
				l = append(l, h)
			}
		}
	}
	return l
}

// theirDescsOf are properties with a function in them.
func theirDescsOf(f api.Value) []api.Desc {
	return []api.Desc{
		fixed(number(7)), loose(number(7)), written(number(7)), dataOf(f, false, true, true),
		accessOf(f, undefined, false, true), accessOf(f, f, true, false), accessOf(undefined, f, true, false), accessOf(undefined, undefined, false, false),
	}
}

// plainAsks are the asks that a plain object answers by itself.
func plainAsks() []api.Ask {
	l := []api.Ask{{Method: api.GetPrototypeOf}, {Method: api.IsExtensible}, {Method: api.PreventExtensions}, {Method: api.OwnKeys}}
	for _, v := range []api.Value{null, thing(0), thing(1), thing(2)} {
		l = append(l, api.Ask{Method: api.SetPrototypeOf, Value: v})
	}
	for _, k := range []api.Key{keyOf("a"), keyOf("b"), keyOf("c"), symKey(2), symKey(7)} {
		l = append(l, api.Ask{Method: api.GetOwnProperty, Key: k}, api.Ask{Method: api.Delete, Key: k})
		for _, d := range append(theirDescsOf(maker(3)), api.Desc{}, api.Desc{Has: 1, Value: number(7)}, api.Desc{Has: 2}, api.Desc{Has: 32}, api.Desc{Has: 48, Enumerable: true, Configurable: true}) {
			l = append(l, api.Ask{Method: api.DefineOwnProperty, Key: k, Desc: d})
		}
	}
	return l
}

func TestHonestTraps(t *testing.T) {
	for _, h := range targets(t) {
		for _, a := range plainAsks() {
			straight := &world{t: t, heap: h, target: 2}
			want := straight.do(a)
			for _, notrap := range []bool{false, true} {
				w := &world{t: t, heap: h, target: 2, ask: a, notrap: notrap}
				if out := w.run(); !sameOut(out, want) || !heap.Same(w.heap, straight.heap) {
					t.Fatalf("%s %v: %s, not %s", trapName(a.Method), notrap, showOut(out), showOut(want))
				}
			}
		}
	}
}

// W6: what a Task was begun with it goes on with, whatever numbers these are.
func TestAnyNumbers(t *testing.T) {
	for _, m := range methods() {
		for i := range 40 {
			to, h := maker(i*7%40), callable(100+i)
			a := filled(m)
			again := a
			again.Object = to.Ref
			holdTalk(t, trapName(m), a, to, h, []turn{{getOf(h, trapName(m)), val(null)}, {api.Want{Kind: api.WantMethod, Ask: again}, val(thing(i))}}, val(thing(i)))
		}
	}
}

// A target that tells more keys than an object has properties (a long string object does) is passed on; held against, it is refused, whatever the trap says.
func TestManyKeys(t *testing.T) {
	var keys []api.Key
	for i := range api.MaxProps + 1 {
		keys = append(keys, keyOf(fmt.Sprint(i)))
	}
	many := api.Out{Kind: api.Done, Keys: keys}
	again := filled(api.OwnKeys)
	again.Object = 1
	holdTalk(t, "passed", filled(api.OwnKeys), maker(1), handler, []turn{{getOf(handler, "ownKeys"), val(undefined)}, {api.Want{Kind: api.WantMethod, Ask: again}, many}}, many)
	holdRow(t, api.OwnKeys, thing(20), append(readKeys(thing(20)), theirs(true, keys, none())...), refused())
}
