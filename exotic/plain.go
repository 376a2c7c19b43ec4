package exotic

import (
	"slices"

	"bailiff/api"
	"bailiff/heap"
	"bailiff/ordinary"
)

// object is an object of which something is asked. What kinds do each in their own way has a method of its own.
type object interface {
	getOwnProperty() (api.Heap, api.Out, api.Errno)
	defineOwnProperty() (api.Heap, api.Out, api.Errno)
	delete() (api.Heap, api.Out, api.Errno)
	ownKeys() (api.Heap, api.Out, api.Errno)
	do() (api.Heap, api.Out, api.Errno)
}

// method is the one that is asked, bound to its object.
func method(o object, m uint8) func() (api.Heap, api.Out, api.Errno) {
	switch m {
	case api.GetOwnProperty:
		return o.getOwnProperty
	case api.DefineOwnProperty:
		return o.defineOwnProperty
	case api.Delete:
		return o.delete
	case api.OwnKeys:
		return o.ownKeys
	}
	return o.do
}

// asked is an array or a string object, of which something is asked.
func asked(h api.Heap, a api.Ask) object {
	l := slices.Clone(h.Objects)
	o := &l[a.Object]
	kind, text := o.Kind, o.Text
	o.Kind, o.Text = api.Plain, ""
	p := plain{heap: api.Heap{Objects: l}, ask: a}
	if kind == api.Array {
		return array{p}
	}
	return boxed{p, text}
}

// plain does as a plain object does: in its heap the object that is asked is one, so that ordinary does it, and tells whether the ask may be. The heap's properties are those that were handed in, so it is only read.
type plain struct {
	heap api.Heap
	ask  api.Ask
}

func (p plain) do() (api.Heap, api.Out, api.Errno) { return ordinary.Do(p.heap, p.ask) }

func (p plain) getOwnProperty() (api.Heap, api.Out, api.Errno)    { return p.do() }
func (p plain) defineOwnProperty() (api.Heap, api.Out, api.Errno) { return p.do() }
func (p plain) delete() (api.Heap, api.Out, api.Errno)            { return p.do() }
func (p plain) ownKeys() (api.Heap, api.Out, api.Errno)           { return p.do() }

// still is what comes of an ask by which nothing changes.
func (p plain) still(out api.Out) (api.Heap, api.Out, api.Errno) {
	return heap.Twin(p.heap), out, api.OK
}

// answer is what comes of a method that tells yes or no.
func answer(b bool) api.Out { return api.Out{Kind: api.Done, Bool: b} }
