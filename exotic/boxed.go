package exotic

import (
	"bailiff/api"
	"bailiff/desc"
	"bailiff/key"
	"bailiff/value"
)

// boxed is a string object: a plain object but for its bytes and its length, which do not stand among its properties, and never change.
type boxed struct {
	plain
	text string
}

// own is the property of a byte, or the length. Bytes whose places are no index have none.
func (b boxed) own(k api.Key) (api.Desc, bool) {
	i, is := key.Index(k)
	switch {
	case key.Check(k) != api.OK:
		return api.Desc{}, false
	case k == key.Of("length"):
		return fixed(value.Num(float64(len(b.text))), false), true
	case is && i < len(b.text):
		return fixed(value.Str(b.text[i:i+1]), true), true
	}
	return api.Desc{}, false
}

func fixed(v api.Value, enumerable bool) api.Desc {
	d := desc.Data(v)
	d.Writable, d.Enumerable, d.Configurable = false, enumerable, false
	return d
}

func (b boxed) getOwnProperty() (api.Heap, api.Out, api.Errno) {
	if d, own := b.own(b.ask.Key); own {
		return b.still(api.Out{Kind: api.Done, Found: true, Desc: d})
	}
	return b.plain.getOwnProperty()
}

func (b boxed) defineOwnProperty() (api.Heap, api.Out, api.Errno) {
	after, out, e := b.plain.defineOwnProperty()
	now, own := b.own(b.ask.Key)
	if e != api.OK || !own {
		return after, out, e
	}
	may, _ := desc.Compatible(true, b.ask.Desc, true, now)
	return b.still(answer(may))
}

func (b boxed) delete() (api.Heap, api.Out, api.Errno) {
	if _, own := b.own(b.ask.Key); own {
		return b.still(answer(false))
	}
	return b.plain.delete()
}

func (b boxed) ownKeys() (api.Heap, api.Out, api.Errno) {
	after, out, e := b.plain.ownKeys()
	var all []api.Key
	for i := range min(len(b.text), api.MaxLength) {
		all = append(all, key.Number(i))
	}
	// Behind the indices the length comes ahead of all others, since it stands ahead of them here.
	all = append(all, key.Of("length"))
	out.Keys = key.Order(append(all, out.Keys...))
	return after, out, e
}
