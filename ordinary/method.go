package ordinary

import (
	"bailiff/api"
	"bailiff/desc"
	"bailiff/table"
)

// asked is an object that is asked, in a heap of its own, and what is asked. All of it may be, so that no call of the layers below tells an error but where there is no room.
type asked struct {
	heap   api.Heap
	object *api.Object
	ask    api.Ask
}

// method is the one of the eight that is asked, bound to its object.
func method(a asked) func() api.Out {
	switch a.ask.Method {
	case api.GetPrototypeOf:
		return a.getPrototypeOf
	case api.SetPrototypeOf:
		return a.setPrototypeOf
	case api.IsExtensible:
		return a.isExtensible
	case api.PreventExtensions:
		return a.preventExtensions
	case api.GetOwnProperty:
		return a.getOwnProperty
	case api.DefineOwnProperty:
		return a.defineOwnProperty
	case api.Delete:
		return a.delete
	}
	return a.ownKeys
}

// answer is what comes of a method that tells yes or no.
func answer(b bool) api.Out { return api.Out{Kind: api.Done, Bool: b} }

func (a asked) getPrototypeOf() api.Out {
	return api.Out{Kind: api.Done, Value: a.object.Proto}
}

func (a asked) setPrototypeOf() api.Out {
	o, proto := a.object, a.ask.Value
	switch {
	case proto == o.Proto: // even of an object that is closed
		return answer(true)
	case !o.Ext || behind(a.heap, a.ask.Object, proto):
		return answer(false)
	}
	o.Proto = proto
	return answer(true)
}

func (a asked) isExtensible() api.Out { return answer(a.object.Ext) }

func (a asked) preventExtensions() api.Out {
	a.object.Ext = false
	return answer(true)
}

func (a asked) getOwnProperty() api.Out {
	d, found := a.own()
	return api.Out{Kind: api.Done, Found: found, Desc: d}
}

func (a asked) own() (api.Desc, bool) {
	d, found, _ := table.Find(a.object.Props, a.ask.Key)
	return d, found
}

func (a asked) defineOwnProperty() api.Out {
	now, found := a.own()
	d, may, _ := desc.Apply(a.object.Ext, a.ask.Desc, found, now)
	if !may {
		return answer(false)
	}
	props, e := table.Put(a.object.Props, a.ask.Key, d)
	if e == api.ErrTable {
		return api.Out{Kind: api.Fail, Error: api.RangeError, Text: "too many"}
	}
	a.object.Props = props
	return answer(true)
}

func (a asked) delete() api.Out {
	now, found := a.own()
	if found && !now.Configurable {
		return answer(false)
	}
	a.object.Props, _ = table.Drop(a.object.Props, a.ask.Key)
	return answer(true)
}

func (a asked) ownKeys() api.Out {
	keys, _ := table.Keys(a.object.Props)
	return api.Out{Kind: api.Done, Keys: keys}
}
