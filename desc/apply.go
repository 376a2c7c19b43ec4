package desc

import (
	"bailiff/api"
)

// Complete has all fields of its kind; one that is neither data nor an accessor's becomes data.
func Complete(d api.Desc) (api.Desc, api.Errno) {
	if e := Check(d); e != api.OK {
		return api.Desc{}, e
	}
	return complete(d), api.OK
}

// complete lays what d has on one of its kind that has all fields, each of them zero: undefined, or false. What stands in fields that d lacks is left behind.
func complete(d api.Desc) api.Desc {
	if IsAccess(d) {
		return lay(api.Desc{Has: access | common}, d)
	}
	return lay(api.Desc{Has: data | common}, d)
}

// Compatible tells whether a property may become as d says: ext, whether its object takes new ones; found, whether there is one, which is now.
func Compatible(ext bool, d api.Desc, found bool, now api.Desc) (bool, api.Errno) {
	switch {
	case Check(d) != api.OK, found && !whole(now):
		return false, api.ErrDesc
	case !found:
		return ext, api.OK
	}
	return changes(d, now), api.OK
}

// whole tells whether a descriptor is complete.
func whole(d api.Desc) bool {
	return Check(d) == api.OK && (d.Has == data|common || d.Has == access|common)
}

// changes tells whether a property that is there may become as d says.
func changes(d, now api.Desc) bool {
	switch {
	case now.Configurable:
		return true
	case IsData(d) && IsAccess(now), IsAccess(d) && IsData(now):
		return false
	case now.Writable: // its value is free, and it may cease to be writable
		d.Has &^= data
	}
	// What is left is fixed: d may only say of it what is so.
	now.Has &= d.Has
	return Same(d, now)
}

// Apply is what a property becomes, if it may become as d says.
func Apply(ext bool, d api.Desc, found bool, now api.Desc) (api.Desc, bool, api.Errno) {
	may, e := Compatible(ext, d, found, now)
	switch {
	case !may:
		return api.Desc{}, false, e
	case !found:
		return complete(d), true, api.OK
	}
	return become(d, now), true, api.OK
}

// become is now with what d has laid on it. Where the kind is another one, now's own fields of its kind are taken away first.
func become(d, now api.Desc) api.Desc {
	switch {
	case IsData(d):
		now.Has &^= access
	case IsAccess(d):
		now.Has &^= data
	}
	return complete(lay(now, d))
}
