package coerce

import (
	"bailiff/api"
	"bailiff/key"
	"bailiff/value"
)

// given tells whether an answer may be given, whatever was wanted.
func given(o api.Out) bool {
	if o.Kind != api.Done && o.Kind != api.Throw {
		return false
	}
	for _, k := range o.Keys {
		if key.Check(k) != api.OK {
			return false
		}
	}
	return value.May(o.Value) && describes(o.Desc)
}

// describes tells whether a descriptor may be. No coercion reads one, and this layer does not stand on desc, but an answer in which one may not be is refused as anywhere else.
func describes(d api.Desc) bool {
	data, access := d.Has&(api.HasValue|api.HasWritable), d.Has&(api.HasGet|api.HasSet)
	common := d.Has & (api.HasEnumerable | api.HasConfigurable)
	switch {
	case d.Has != data|access|common, data != 0 && access != 0:
		return false
	case beside(d) != api.Desc{}:
		return false
	}
	return value.May(d.Value) && (d.Has&api.HasGet == 0 || acts(d.Get)) && (d.Has&api.HasSet == 0 || acts(d.Set))
}

// beside is what stands in the fields that a descriptor does not have.
func beside(d api.Desc) api.Desc {
	if d.Has&api.HasValue != 0 {
		d.Value = api.Value{}
	}
	if d.Has&api.HasGet != 0 {
		d.Get = api.Value{}
	}
	if d.Has&api.HasSet != 0 {
		d.Set = api.Value{}
	}
	d.Writable = d.Writable && d.Has&api.HasWritable == 0
	d.Enumerable = d.Enumerable && d.Has&api.HasEnumerable == 0
	d.Configurable = d.Configurable && d.Has&api.HasConfigurable == 0
	d.Has = 0
	return d
}

// acts tells whether a value may stand as a Get or a Set.
func acts(v api.Value) bool {
	return value.May(v) && (v.Kind == api.Undefined || value.Calls(v))
}
