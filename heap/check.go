package heap

import (
	"iter"
	"slices"

	"bailiff/api"
	"bailiff/key"
	"bailiff/table"
	"bailiff/value"
)

// Check tells whether a heap may be.
func Check(h api.Heap) api.Errno {
	if len(h.Objects) > api.MaxObjects {
		return api.ErrHeap
	}
	for n := range h.Objects {
		if !may(h, n) {
			return api.ErrHeap
		}
	}
	if loops(h) { // asked last, since one can go only to prototypes that are there
		return api.ErrHeap
	}
	return api.OK
}

// may tells whether an object may be, wherever its prototypes lead.
func may(h api.Heap, n int) bool {
	o := &h.Objects[n]
	if table.Check(o.Props) != api.OK || !value.IsObject(o.Proto) && o.Proto.Kind != api.Null {
		return false
	}
	for v := range values(o) {
		if !holds(h, v) {
			return false
		}
	}
	return fits(h, n)
}

// values are all that stand in an object, had or not.
func values(o *api.Object) iter.Seq[api.Value] {
	return func(yield func(v api.Value) bool) {
		if !yield(o.Proto) || !yield(o.Target) || !yield(o.Handler) {
			return
		}
		for i := range o.Props {
			d := &o.Props[i].Desc
			if !yield(d.Value) || !yield(d.Get) || !yield(d.Set) {
				return
			}
		}
	}
}

// holds tells whether a value may be in the heap.
func holds(h api.Heap, v api.Value) bool {
	switch {
	case !value.May(v):
		return false
	case value.IsObject(v):
		return v.Ref < len(h.Objects) && v.Kind == kind(&h.Objects[v.Ref])
	}
	return true
}

// kind is the Kind of an object's value. One that makes and cannot be called may not be; it has none.
func kind(o *api.Object) uint8 {
	switch {
	case o.Calls && o.Makes:
		return api.Maker
	case o.Calls:
		return api.Func
	case o.Makes:
		return api.Undefined
	}
	return api.Thing
}

// fits tells whether an object has what its Kind has, and nothing else.
func fits(h api.Heap, n int) bool {
	o := &h.Objects[n]
	switch o.Kind {
	case api.Plain:
		return kind(o) == api.Thing && bare(o)
	case api.Array:
		return kind(o) == api.Thing && bare(o) && measured(o.Props)
	case api.Boxed:
		return kind(o) == api.Thing && alone(o) && boxes(o)
	case api.Function:
		return kind(o) == api.Maker && bare(o)
	case api.Native:
		return o.Calls && o.Handler == api.Value{} && o.Text == "" && revokes(h, n)
	case api.Proxy:
		return !o.Ext && len(o.Props) == 0 && o.Proto.Kind == api.Null && o.Text == "" && leads(h, n)
	}
	return false
}

// alone tells whether nothing stands behind an object, bare whether it has no text either.
func alone(o *api.Object) bool { return o.Target == api.Value{} && o.Handler == api.Value{} }
func bare(o *api.Object) bool  { return alone(o) && o.Text == "" }

// measured tells whether properties begin with an array's length, and have no index that does not lie below it.
func measured(l []api.Prop) bool {
	if len(l) == 0 || l[0].Key != key.Of("length") {
		return false
	}
	d := l[0].Desc
	length := d.Value.Num
	if d.Value.Kind != api.Number || !(0 <= length && length <= api.MaxLength) || d.Enumerable || d.Configurable {
		return false
	}
	return indices(l, func(i int) bool { return i < int(length) })
}

// boxes tells whether a string object has a text that may be, and no property that this one has of itself: its length, and one for each of its bytes.
func boxes(o *api.Object) bool {
	length := func(p api.Prop) bool { return p.Key == key.Of("length") }
	if len(o.Text) > api.MaxString || slices.ContainsFunc(o.Props, length) {
		return false
	}
	return indices(o.Props, func(i int) bool { return i >= len(o.Text) })
}

// indices tells whether all indices among the keys are such.
func indices(l []api.Prop, such func(i int) bool) bool {
	for _, p := range l {
		if i, is := key.Index(p.Key); is && !such(i) {
			return false
		}
	}
	return true
}

// revokes tells whether a native has nothing behind it, or a proxy that was there ahead of it.
func revokes(h api.Heap, n int) bool {
	t := h.Objects[n].Target
	return t == api.Value{} || ahead(t, n) && h.Objects[t.Ref].Kind == api.Proxy
}

// leads tells whether a proxy has two objects behind it that were there ahead of it, and can do what the first one can, or whether it is revoked, and can do what some object can.
func leads(h api.Heap, n int) bool {
	o := &h.Objects[n]
	if o.Target.Kind == api.Null && o.Handler.Kind == api.Null {
		return kind(o) != api.Undefined
	}
	return ahead(o.Target, n) && ahead(o.Handler, n) && kind(o) == o.Target.Kind
}

func ahead(v api.Value, n int) bool { return value.IsObject(v) && v.Ref < n }

// loops tells whether one comes back from an object to it by prototypes. Behind what an earlier walk has passed nothing does, so each object is passed once.
func loops(h api.Heap) bool {
	walks := make([]int, len(h.Objects)) // which one passed an object, from 1 on
	for n := range h.Objects {
		walk := n + 1
		for p := (api.Value{Kind: api.Thing, Ref: n}); value.IsObject(p); p = h.Objects[p.Ref].Proto {
			if walks[p.Ref] == walk {
				return true
			}
			if walks[p.Ref] != 0 {
				break
			}
			walks[p.Ref] = walk
		}
	}
	return false
}
