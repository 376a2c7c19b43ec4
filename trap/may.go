package trap

import (
	"bailiff/api"
	"bailiff/desc"
	"bailiff/key"
	"bailiff/value"
)

// may tells whether a trap may begin so.
func may(a api.Ask, target, handler api.Value) api.Errno {
	switch {
	case a.Method < api.GetPrototypeOf || a.Method > api.Construct:
		return api.ErrArg
	case keyed(a.Method) && key.Check(a.Key) != api.OK:
		return api.ErrHeap
	case a.Method == api.DefineOwnProperty && desc.Check(a.Desc) != api.OK:
		return api.ErrDesc
	case !value.May(a.Value) || !value.May(a.Receiver):
		return api.ErrHeap
	case a.Method == api.SetPrototypeOf && !leads(a.Value):
		return api.ErrHeap
	case len(a.Args) > api.MaxArgs:
		return api.ErrMany
	case !all(a.Args), !value.May(target), !suits(a.Method, target), !value.May(handler), !leads(handler):
		return api.ErrHeap
	}
	return api.OK
}

// keyed tells the methods that are asked of one property.
func keyed(method uint8) bool {
	return api.GetOwnProperty <= method && method <= api.Delete
}

// leads tells an object or null.
func leads(v api.Value) bool { return v.Kind == api.Null || value.IsObject(v) }

// void tells what stands for a trap that is not there.
func void(v api.Value) bool { return v.Kind == api.Undefined || v.Kind == api.Null }

// suits tells whether a proxy that is asked for a method may have that target.
func suits(method uint8, target api.Value) bool {
	switch method {
	case api.Call:
		return value.Calls(target)
	case api.Construct:
		return target.Kind == api.Maker
	}
	return value.IsObject(target)
}

func all(l []api.Value) bool {
	for _, v := range l {
		if !value.May(v) {
			return false
		}
	}
	return true
}

// given tells whether an answer may be given, whatever was wanted. How many keys there are is no matter here: a long string object has more than MaxProps.
func given(o api.Out) bool {
	if o.Kind != api.Done && o.Kind != api.Throw {
		return false
	}
	for _, k := range o.Keys {
		if key.Check(k) != api.OK {
			return false
		}
	}
	return value.May(o.Value) && desc.Check(o.Desc) == api.OK
}
