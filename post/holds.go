package post

import (
	"bailiff/api"
	"bailiff/desc"
	"bailiff/value"
)

// holds tells whether a claim, of which all that counts may be, is no lie about what can't change.
func (c claim) holds() bool {
	switch c.ask.Method {
	case api.GetPrototypeOf:
		return leads(c.answer.Value) && c.keeps(c.answer.Value)
	case api.SetPrototypeOf:
		return !c.answer.Bool || c.keeps(c.ask.Value)
	case api.IsExtensible:
		return c.answer.Bool == c.facts.Ext
	case api.PreventExtensions:
		return !c.answer.Bool || !c.facts.Ext
	case api.GetOwnProperty:
		return c.told()
	case api.DefineOwnProperty:
		return !c.answer.Bool || c.defined()
	case api.HasProperty:
		return c.answer.Bool || c.free()
	case api.Get:
		return c.got()
	case api.Set:
		return !c.answer.Bool || c.put()
	case api.Delete:
		return !c.answer.Bool || c.free()
	case api.OwnKeys:
		return c.listed()
	case api.Construct:
		return value.IsObject(c.answer.Value)
	}
	return true // of Call anything
}

// keeps tells whether a value can be the target's prototype: one that takes no properties keeps its own.
func (c claim) keeps(proto api.Value) bool {
	return c.facts.Ext || value.Same(proto, c.facts.Proto)
}

// fixed tells whether a property is there that is not configurable.
func (c claim) fixed() bool { return c.facts.Found && !c.facts.Desc.Configurable }

// free tells whether it may be said that there is no property.
func (c claim) free() bool { return !c.facts.Found || c.facts.Ext && !c.fixed() }

// fits tells whether what is there may become so.
func (c claim) fits(d api.Desc) bool {
	may, _ := desc.Compatible(c.facts.Ext, d, c.facts.Found, c.facts.Desc)
	return may
}

// narrows tells a descriptor by which a property that can be written, but not configured, can't be written any more.
func (c claim) narrows(d api.Desc) bool {
	return c.fixed() && c.facts.Desc.Writable && d.Has&api.HasWritable != 0 && !d.Writable
}

// told is the check of GetOwnProperty. What is told to be fixed must be so already, and fixed as far.
func (c claim) told() bool {
	if !c.answer.Found {
		return c.free()
	}
	d := completed(c.answer.Desc)
	return c.fits(d) && (d.Configurable || c.fixed() && !c.narrows(d))
}

// defined is the check of DefineOwnProperty, where it is told to be done.
func (c claim) defined() bool {
	d := c.ask.Desc
	fixing := d.Has&api.HasConfigurable != 0 && !d.Configurable
	return c.fits(d) && (!fixing || c.fixed()) && !c.narrows(d)
}

// got is the check of Get.
func (c claim) got() bool {
	now, v := c.facts.Desc, c.answer.Value
	switch {
	case !c.fixed():
		return true
	case desc.IsAccess(now):
		return now.Get.Kind != api.Undefined || v.Kind == api.Undefined
	}
	return now.Writable || value.Same(v, now.Value)
}

// put is the check of Set, where it is told to be done.
func (c claim) put() bool {
	now := c.facts.Desc
	switch {
	case !c.fixed():
		return true
	case desc.IsAccess(now):
		return now.Set.Kind != api.Undefined
	}
	return now.Writable || value.Same(c.ask.Value, now.Value)
}

// listed is the check of OwnKeys.
func (c claim) listed() bool {
	told, there := c.answer.Keys, c.facts.Keys
	switch {
	case twice(told, same), !all(told, c.stuck(), same):
		return false
	case c.facts.Ext:
		return true
	}
	return all(told, there, same) && all(there, told, same)
}

// stuck are the target's keys whose property is there, and fixed.
func (c claim) stuck() []api.Key {
	var l []api.Key
	for i, d := range c.facts.Own {
		if !gone(d) && !d.Configurable {
			l = append(l, c.facts.Keys[i])
		}
	}
	return l
}
