package chain

import (
	"cmp"

	"bailiff/api"
	"bailiff/heap"
	"bailiff/value"
)

// check tells whether a heap may be, and has an object of that number.
func check(h api.Heap, n int) api.Errno { return cmp.Or(heap.Check(h), there(h, n)) }

// there tells whether a number is an object's.
func there(h api.Heap, n int) api.Errno {
	if n < 0 || n >= len(h.Objects) {
		return api.ErrArg
	}
	return api.OK
}

// A proxy has both a target and a handler, or neither: then it is revoked.
func live(o api.Object) bool    { return o.Kind == api.Proxy && value.IsObject(o.Target) }
func revoked(o api.Object) bool { return o.Kind == api.Proxy && !value.IsObject(o.Target) }

// A path is what one meets from an object on, by targets.
type path struct {
	behind  []int      // the numbers of what is behind it, one after the other
	proxies int        // how many of it and these are proxies
	last    api.Object // the last one of it and these
}

// follow goes as far as there is something behind. In a heap that may be, targets have lesser numbers, so that this ends.
func follow(h api.Heap, n int) path {
	var p path
walk:
	for {
		p.last = h.Objects[n]
		switch p.last.Kind {
		case api.Proxy:
			p.proxies++
			if revoked(p.last) {
				break walk
			}
			n = p.last.Target.Ref
			p.behind = append(p.behind, n)
		default: // a native's Target, too: that is the proxy that it revokes, and not behind it
			break walk
		}
	}
	return p
}

// valueOf is an object of a heap that may be, as a value.
func valueOf(o api.Object, n int) api.Value {
	v := api.Value{Kind: api.Thing, Ref: n}
	switch {
	case o.Makes: // it can be called, too
		v.Kind = api.Maker
	case o.Calls:
		v.Kind = api.Func
	}
	return v
}
