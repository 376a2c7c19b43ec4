package table

import (
	"slices"

	"bailiff/api"
	"bailiff/key"
)

// Keys are its keys, in the order in which an object tells them.
func Keys(l []api.Prop) ([]api.Key, api.Errno) {
	return keys(l, func(api.Prop) bool { return true })
}

// Names are those of its keys that are strings and enumerable.
func Names(l []api.Prop) ([]api.Key, api.Errno) {
	return keys(l, func(p api.Prop) bool { return p.Key.Sym == 0 && p.Desc.Enumerable })
}

// keys are the keys of those properties that count.
func keys(l []api.Prop, counts func(p api.Prop) bool) ([]api.Key, api.Errno) {
	if e := Check(l); e != api.OK {
		return nil, e
	}
	var all []api.Key
	for _, p := range l {
		if counts(p) {
			all = append(all, p.Key)
		}
	}
	return key.Order(all), api.OK
}

// Sealed tells whether nothing of it can go.
func Sealed(l []api.Prop) (bool, api.Errno) {
	return none(l, func(p api.Prop) bool { return p.Desc.Configurable })
}

// Frozen tells whether nothing of it can change. An accessor's Writable is false, since it does not have it.
func Frozen(l []api.Prop) (bool, api.Errno) {
	return none(l, func(p api.Prop) bool { return p.Desc.Configurable || p.Desc.Writable })
}

// none tells whether none of the properties is free.
func none(l []api.Prop, free func(p api.Prop) bool) (bool, api.Errno) {
	e := Check(l)
	return e == api.OK && !slices.ContainsFunc(l, free), e
}
