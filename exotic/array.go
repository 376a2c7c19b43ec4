package exotic

import (
	"slices"

	"bailiff/api"
	"bailiff/key"
	"bailiff/value"
)

// array is a plain object but for what its length and its indices do to each other.
type array struct{ plain }

// measure is an array's length, and whether it can be written. It is the first of the properties.
func measure(o api.Object) (int, bool) {
	d := o.Props[0].Desc
	return int(d.Value.Num), d.Writable
}

func stretch(o *api.Object, length int) { o.Props[0].Desc.Value = value.Num(float64(length)) }

func (r array) defineOwnProperty() (api.Heap, api.Out, api.Errno) {
	after, out, e := r.plain.defineOwnProperty()
	if e != api.OK {
		return after, out, e
	}
	if r.ask.Key == key.Of("length") {
		return r.defineLength(after, out)
	}
	if i, is := key.Index(r.ask.Key); is {
		return r.defineIndex(i, after, out)
	}
	return after, out, e
}

// defineLength tells what comes of it, where after and out would come of it as a plain one.
func (r array) defineLength(after api.Heap, out api.Out) (api.Heap, api.Out, api.Errno) {
	d := r.ask.Desc
	if d.Has&api.HasValue == 0 {
		return after, out, api.OK
	}
	if !isLength(d.Value) {
		return r.still(api.Out{Kind: api.Fail, Error: api.RangeError, Text: "too many"})
	}
	was, _ := measure(r.heap.Objects[r.ask.Object])
	length := int(d.Value.Num)
	if length >= was || !out.Bool { // a plain one, too, refuses a lesser length where that can't be written
		return after, out, api.OK
	}
	// A Writable that is false stands in after already: what goes now, and the length that is left, do not ask for it.
	o := &after.Objects[r.ask.Object]
	left := cut(o, length)
	stretch(o, left)
	return after, answer(left == length), api.OK
}

// isLength tells whether a value may be an array's length. Those that may be are whole.
func isLength(v api.Value) bool {
	return v.Kind == api.Number && 0 <= v.Num && v.Num <= api.MaxLength
}

// cut takes away the indices that are not below a length, as far down as one that must stay, and tells the length that is left. The properties are in memory of their own.
func cut(o *api.Object, length int) int {
	for _, p := range o.Props {
		if i, is := key.Index(p.Key); is && !p.Desc.Configurable {
			length = max(length, i+1)
		}
	}
	o.Props = slices.DeleteFunc(o.Props, func(p api.Prop) bool {
		i, is := key.Index(p.Key)
		return is && i >= length
	})
	return length
}

// defineIndex tells what comes of it, where after and out would come of it as a plain one.
func (r array) defineIndex(i int, after api.Heap, out api.Out) (api.Heap, api.Out, api.Errno) {
	length, writable := measure(r.heap.Objects[r.ask.Object])
	if i >= length {
		if !writable {
			return r.still(answer(false))
		}
		if out.Bool {
			stretch(&after.Objects[r.ask.Object], i+1)
		}
	}
	return after, out, api.OK
}
