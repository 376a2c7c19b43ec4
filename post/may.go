package post

import (
	"cmp"

	"bailiff/api"
	"bailiff/desc"
	"bailiff/key"
	"bailiff/value"
)

// may tells whether what counts of a claim's method may be: of the ask, then of the answer, then of the facts.
func (c claim) may() api.Errno {
	if c.answer.Kind != api.Done {
		return api.ErrArg
	}
	switch c.ask.Method {
	case api.GetPrototypeOf:
		return cmp.Or(whatever(c.answer.Value), parent(c.facts.Proto))
	case api.SetPrototypeOf:
		return cmp.Or(parent(c.ask.Value), parent(c.facts.Proto))
	case api.IsExtensible, api.PreventExtensions:
		return api.OK
	case api.GetOwnProperty:
		return cmp.Or(described(c.answer), there(c.facts))
	case api.DefineOwnProperty:
		return cmp.Or(desc.Check(c.ask.Desc), there(c.facts))
	case api.HasProperty, api.Delete:
		return there(c.facts)
	case api.Get:
		return cmp.Or(whatever(c.answer.Value), there(c.facts))
	case api.Set:
		return cmp.Or(whatever(c.ask.Value), there(c.facts))
	case api.OwnKeys:
		return cmp.Or(keys(c.answer.Keys), owned(c.facts))
	case api.Call, api.Construct:
		return whatever(c.answer.Value)
	}
	return api.ErrArg
}

// whatever tells whether a value may be, whichever it is.
func whatever(v api.Value) api.Errno {
	if !value.May(v) {
		return api.ErrHeap
	}
	return api.OK
}

// parent tells whether a value may be an object's prototype.
func parent(v api.Value) api.Errno {
	if !leads(v) {
		return api.ErrHeap
	}
	return whatever(v)
}

// leads tells an object or null.
func leads(v api.Value) bool { return v.Kind == api.Null || value.IsObject(v) }

// described tells whether what getOwnPropertyDescriptor answered may be; undefined may.
func described(answer api.Out) api.Errno {
	if !answer.Found {
		return api.OK
	}
	return desc.Check(answer.Desc)
}

// there tells whether the property that the target told may be; none may.
func there(f Facts) api.Errno {
	if !f.Found {
		return api.OK
	}
	return whole(f.Desc)
}

// whole tells whether a descriptor is complete: then it has no more fields when it is made so.
func whole(d api.Desc) api.Errno {
	made, e := desc.Complete(d)
	if e == api.OK && made.Has != d.Has {
		return api.ErrDesc
	}
	return e
}

func keys(l []api.Key) api.Errno {
	if len(l) > api.MaxProps {
		return api.ErrMany
	}
	for _, k := range l {
		if e := key.Check(k); e != api.OK {
			return e
		}
	}
	return api.OK
}

// owned tells whether the keys that the target told may be, with what it told of each. How many there are is known ahead of looking for one that stands there twice, so that this never takes long.
func owned(f Facts) api.Errno {
	if e := keys(f.Keys); e != api.OK {
		return e
	}
	if twice(f.Keys, same) || len(f.Own) != len(f.Keys) {
		return api.ErrArg
	}
	for _, d := range f.Own {
		if e := whole(d); !gone(d) && e != api.OK {
			return e
		}
	}
	return api.OK
}

// gone tells what was told of a key of which there is no property any more.
func gone(d api.Desc) bool { return d == api.Desc{} }
