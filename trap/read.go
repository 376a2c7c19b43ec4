package trap

import (
	"bailiff/api"
	"bailiff/key"
	"bailiff/value"
)

// readKeys reads the trap's answer as keys: its length, and then each one.
func (t *Task) readKeys(o api.Out) api.Want {
	v := o.Value
	switch t.step {
	case lengthGot:
		if v.Kind != api.Number {
			goto refuse
		}
		if !(0 <= v.Num && v.Num <= api.MaxProps) { // nor is what is no number
			return t.end(api.Out{Kind: api.Fail, Error: api.RangeError, Text: "too many"})
		}
		t.count = int(v.Num)
	case indexGot:
		if v.Kind != api.String && v.Kind != api.Symbol {
			goto refuse
		}
		k, _ := key.Prim(v)
		t.answer.Keys = append(t.answer.Keys, k)
	}
	if n := len(t.answer.Keys); n < t.count {
		return t.get(indexGot, t.told, key.Number(n))
	}
	if !twice(t.answer.Keys) {
		return t.probe(extTold, api.IsExtensible)
	}
refuse:
	return t.refuse()
}

// twice tells whether a key stands twice in a list.
func twice(l []api.Key) bool {
	met := map[api.Key]struct{}{}
	for _, k := range l {
		met[k] = struct{}{}
	}
	return len(met) < len(l)
}

// readDesc reads the trap's answer as a descriptor: whether it has a field, and then that field.
func (t *Task) readDesc(o api.Out) api.Want {
	f := reading(t.at)
	switch t.step {
	case hasTold:
		if o.Bool {
			return t.get(fieldGot, t.told, word(f))
		}
	case fieldGot:
		if !takes(f, o.Value) {
			return t.refuse()
		}
		t.answer.Desc = with(t.answer.Desc, f, o.Value)
	}
	t.at++
	return t.nextField()
}

// nextField wants to know whether the trap's answer has the next field. Behind the last one it is held: one that is both a data descriptor and an accessor's may not be, and is refused there.
func (t *Task) nextField() api.Want {
	if f := reading(t.at); f != 0 {
		return t.method(hasTold, api.Ask{Method: api.HasProperty, Object: t.told.Ref, Key: word(f)})
	}
	return t.check()
}

// takes tells whether a descriptor's field may be so.
func takes(f uint8, v api.Value) bool {
	if f == api.HasGet || f == api.HasSet {
		return v.Kind == api.Undefined || value.Calls(v)
	}
	return true
}
