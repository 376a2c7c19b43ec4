package ordinary

import (
	"cmp"

	"bailiff/api"
	"bailiff/desc"
	"bailiff/key"
	"bailiff/value"
)

// may tells whether an ask may be, in a heap that may be. Only the fields that its method has count.
func may(h api.Heap, a api.Ask) api.Errno {
	if !eight(a.Method) || !there(h, a.Object) || !plain(h.Objects[a.Object]) {
		return api.ErrArg
	}
	switch a.Method {
	case api.GetOwnProperty, api.Delete:
		return key.Check(a.Key)
	case api.DefineOwnProperty:
		return cmp.Or(key.Check(a.Key), desc.Check(a.Desc), within(h, a.Desc))
	case api.SetPrototypeOf:
		if !leads(h, a.Value) {
			return api.ErrHeap
		}
	}
	return api.OK
}

// eight tells whether a method is one of those that a plain object answers by itself.
func eight(method uint8) bool {
	switch method {
	case api.GetPrototypeOf, api.SetPrototypeOf, api.IsExtensible, api.PreventExtensions:
		return true
	case api.GetOwnProperty, api.DefineOwnProperty, api.Delete, api.OwnKeys:
		return true
	}
	return false
}

func there(h api.Heap, n int) bool { return 0 <= n && n < len(h.Objects) }

// plain tells whether an object is one of the kinds that have nothing of their own in these methods.
func plain(o api.Object) bool {
	switch o.Kind {
	case api.Plain, api.Function, api.Native:
		return true
	}
	return false
}

// within tells whether the values in a descriptor may be in the heap, had or not, as heap.Check asks it of all properties.
func within(h api.Heap, d api.Desc) api.Errno {
	for _, v := range [...]api.Value{d.Value, d.Get, d.Set} {
		if !holds(h, v) {
			return api.ErrHeap
		}
	}
	return api.OK
}

// leads tells whether a value may be an object's prototype.
func leads(h api.Heap, v api.Value) bool {
	return (v.Kind == api.Null || value.IsObject(v)) && holds(h, v)
}

// holds tells whether a value may be in the heap.
func holds(h api.Heap, v api.Value) bool {
	switch {
	case !value.May(v):
		return false
	case value.IsObject(v):
		return there(h, v.Ref) && v.Kind == kind(h.Objects[v.Ref])
	}
	return true
}

// kind is the Kind of an object's value. What can make can be called, too.
func kind(o api.Object) uint8 {
	switch {
	case o.Makes:
		return api.Maker
	case o.Calls:
		return api.Func
	}
	return api.Thing
}
