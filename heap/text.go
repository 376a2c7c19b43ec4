package heap

import (
	"iter"
	"strconv"
	"strings"

	"bailiff/api"
	"bailiff/desc"
	"bailiff/key"
	"bailiff/value"
)

// Text shows a heap, an object a line.
func Text(h api.Heap) (string, api.Errno) {
	if e := Check(h); e != api.OK {
		return "", e
	}
	var out strings.Builder
	for s := range pieces(h) {
		if out.Len()+len(s) > api.MaxAnswer {
			return "", api.ErrMany
		}
		out.WriteString(s)
	}
	return out.String(), api.OK
}

// pieces are a heap's text bit by bit, so that one that is far too long is never made: many properties may have one long string.
func pieces(h api.Heap) iter.Seq[string] {
	return func(yield func(s string) bool) {
		for n := range h.Objects {
			o := &h.Objects[n]
			if !yield(strconv.Itoa(n) + " " + head(o)) {
				return
			}
			for _, p := range o.Props {
				if !yield(" " + key.Text(p.Key) + ":" + desc.Text(p.Desc)) {
					return
				}
			}
			if !yield("\n") {
				return
			}
		}
	}
}

// head is what is told of an object ahead of its properties, but for its number.
func head(o *api.Object) string {
	words := []string{kindName(o.Kind), openness(o.Ext)}
	switch o.Kind {
	case api.Boxed:
		words = append(words, value.Text(o.Proto), value.Text(value.Str(o.Text)))
	case api.Proxy:
		words = append(words, value.Text(o.Target), value.Text(o.Handler))
	default:
		words = append(words, value.Text(o.Proto))
	}
	return strings.Join(words, " ")
}

// kindName is the name of a kind that may be.
func kindName(k uint8) string {
	names := [...]string{api.Plain: "plain", api.Array: "array", api.Boxed: "boxed", api.Function: "function", api.Native: "native", api.Proxy: "proxy"}
	return names[k]
}

func openness(ext bool) string {
	if ext {
		return "open"
	}
	return "closed"
}
