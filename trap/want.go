package trap

import (
	"slices"

	"bailiff/api"
	"bailiff/desc"
	"bailiff/key"
	"bailiff/post"
	"bailiff/value"
)

// method wants an ask; the step is what is given then.
func (t *Task) method(s step, a api.Ask) api.Want {
	t.step = s
	return api.Want{Kind: api.WantMethod, Ask: a}
}

// get wants what an object has by a key.
func (t *Task) get(s step, v api.Value, k api.Key) api.Want {
	return t.method(s, api.Ask{Method: api.Get, Object: v.Ref, Key: k, Receiver: v})
}

// seek wants the trap.
func (t *Task) seek() api.Want {
	return t.get(trapGot, t.handler, key.Of(post.Name(t.ask.Method)))
}

// pass wants that the target is asked in the proxy's place.
func (t *Task) pass() api.Want {
	a := t.ask
	a.Object, a.Args = t.target.Ref, slices.Clone(a.Args)
	return t.method(passed, a)
}

// probe wants what the target itself tells by a method without a key.
func (t *Task) probe(s step, method uint8) api.Want {
	return t.method(s, api.Ask{Method: method, Object: t.target.Ref})
}

// own wants the target's own property of a key.
func (t *Task) own(s step, k api.Key) api.Want {
	return t.method(s, api.Ask{Method: api.GetOwnProperty, Object: t.target.Ref, Key: k})
}

// call wants that the trap is called.
func (t *Task) call() api.Want {
	t.step = answered
	return api.Want{Kind: api.WantCall, Func: t.trap, This: t.handler, Args: t.args()}
}

// args is what the trap is called with.
func (t *Task) args() []api.Value {
	target, k, v := t.target, key.Value(t.ask.Key), t.ask.Value
	switch t.ask.Method {
	case api.SetPrototypeOf:
		return []api.Value{target, v}
	case api.GetOwnProperty, api.HasProperty, api.Delete:
		return []api.Value{target, k}
	case api.DefineOwnProperty:
		return []api.Value{target, k, t.pack}
	case api.Get:
		return []api.Value{target, k, t.ask.Receiver}
	case api.Set:
		return []api.Value{target, k, v, t.ask.Receiver}
	case api.Call:
		return []api.Value{target, v, t.pack}
	case api.Construct:
		return []api.Value{target, t.pack, v}
	}
	return []api.Value{target}
}

// packs tells the methods whose trap is handed an object that has yet to be made.
func packs(method uint8) bool {
	return method == api.DefineOwnProperty || method == api.Call || method == api.Construct
}

// make wants that object.
func (t *Task) make() api.Want {
	t.step = packed
	if t.ask.Method == api.DefineOwnProperty {
		return api.Want{Kind: api.WantNew, Object: plain(t.ask.Desc)}
	}
	return api.Want{Kind: api.WantNew, Object: array(t.ask.Args)}
}

// plain is a descriptor as an object of the script.
func plain(d api.Desc) api.Object {
	o := api.Object{Kind: api.Plain, Proto: first(api.ObjectProto), Ext: true}
	for f := api.HasValue; f <= api.HasConfigurable; f <<= 1 {
		if d.Has&f != 0 {
			o.Props = append(o.Props, api.Prop{Key: word(f), Desc: desc.Data(field(d, f))})
		}
	}
	return o
}

// array is values as an array of the script.
func array(l []api.Value) api.Object {
	length := desc.Data(value.Num(float64(len(l))))
	length.Enumerable, length.Configurable = false, false
	props := []api.Prop{{Key: key.Of("length"), Desc: length}}
	for i, v := range l {
		props = append(props, api.Prop{Key: key.Number(i), Desc: desc.Data(v)})
	}
	return api.Object{Kind: api.Array, Proto: first(api.ArrayProto), Ext: true, Props: props}
}

// first is one of the first objects that can't be called.
func first(n int) api.Value { return api.Value{Kind: api.Thing, Ref: n} }
