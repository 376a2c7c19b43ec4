package trap

import (
	"bailiff/api"
	"bailiff/key"
	"bailiff/value"
)

// A descriptor's fields are told by their bits. They are written in the bits' own order, but read from an object in another one.

// reading is the field that is read as that one in turn, from 0 on; none behind the last one.
func reading(n int) uint8 {
	order := [...]uint8{api.HasEnumerable, api.HasConfigurable, api.HasValue, api.HasWritable, api.HasGet, api.HasSet}
	if n < len(order) {
		return order[n]
	}
	return 0
}

// word is the key by which an object of the script has a field.
func word(f uint8) api.Key {
	switch f {
	case api.HasValue:
		return key.Of("value")
	case api.HasWritable:
		return key.Of("writable")
	case api.HasGet:
		return key.Of("get")
	case api.HasSet:
		return key.Of("set")
	case api.HasEnumerable:
		return key.Of("enumerable")
	}
	return key.Of("configurable")
}

// field is what a descriptor has as a field.
func field(d api.Desc, f uint8) api.Value {
	switch f {
	case api.HasValue:
		return d.Value
	case api.HasWritable:
		return value.Bool(d.Writable)
	case api.HasGet:
		return d.Get
	case api.HasSet:
		return d.Set
	case api.HasEnumerable:
		return value.Bool(d.Enumerable)
	}
	return value.Bool(d.Configurable)
}

// with is a descriptor with one field more.
func with(d api.Desc, f uint8, v api.Value) api.Desc {
	d.Has |= f
	switch f {
	case api.HasValue:
		d.Value = v
	case api.HasWritable:
		d.Writable = value.Truth(v)
	case api.HasGet:
		d.Get = v
	case api.HasSet:
		d.Set = v
	case api.HasEnumerable:
		d.Enumerable = value.Truth(v)
	case api.HasConfigurable:
		d.Configurable = value.Truth(v)
	}
	return d
}
