package trap

import (
	"slices"

	"bailiff/api"
	"bailiff/key"
	"bailiff/value"
)

// A step is what a Task is to be given next.
type step uint8

const (
	unmade    step = iota // of a Task that Start did not make
	begun                 // anything
	trapGot               // the trap, from the handler
	passed                // what the target answers in the proxy's place
	packed                // the object that the trap is handed
	answered              // what the trap answers
	lengthGot             // how many keys that tells
	indexGot              // one of these
	hasTold               // whether it has a field of a descriptor
	fieldGot              // that field
	ownTold               // the target's property of the key
	extTold               // whether the target takes new properties
	protoTold             // the target's prototype
	keysTold              // the target's keys
	eachTold              // the target's property of one of these
	ended
)

// lead takes the steps up to the trap's answer; all others it leaves to those that read the answer, and hold it.
func (t *Task) lead(o api.Out) api.Want {
	switch t.step {
	case begun:
		if t.handler.Kind == api.Null {
			goto refuse
		}
		return t.seek()
	case trapGot:
		t.trap = o.Value
		switch {
		case void(t.trap):
			return t.pass()
		case !value.Calls(t.trap):
			goto refuse
		case packs(t.ask.Method):
			return t.make()
		}
		goto call
	case packed:
		t.pack = o.Value
		goto call
	case passed:
		o.Keys = slices.Clone(o.Keys)
		return t.end(o)
	case answered:
		t.take(o.Value)
		goto judge
	case lengthGot, indexGot:
		return t.readKeys(o)
	case hasTold, fieldGot:
		return t.readDesc(o)
	}
	return t.hold(o)
call:
	return t.call()
judge:
	switch {
	case t.absurd():
		goto refuse
	case t.settled():
		return t.end(t.answer)
	case t.ask.Method == api.OwnKeys:
		return t.get(lengthGot, t.told, key.Of("length"))
	case keyed(t.ask.Method):
		return t.own(ownTold, t.ask.Key)
	}
	return t.probe(extTold, api.IsExtensible)
refuse:
	return t.refuse()
}

// hold takes the steps behind the trap's answer: what the target itself tells is asked for, up to the check.
func (t *Task) hold(o api.Out) api.Want {
	switch method := t.ask.Method; t.step {
	case ownTold:
		t.facts.Found, t.facts.Desc = o.Found, o.Desc
		switch {
		case method == api.Get || method == api.Set:
			goto check
		case !t.denies():
			goto ext
		case !o.Found:
			goto done
		case !o.Desc.Configurable:
			goto refuse
		}
		goto ext
	case extTold:
		t.facts.Ext = o.Bool
		switch {
		case method == api.OwnKeys:
			return t.probe(keysTold, api.OwnKeys)
		case method == api.GetOwnProperty && !t.denies():
			return t.nextField()
		case method != api.GetPrototypeOf && method != api.SetPrototypeOf:
			goto check
		case o.Bool:
			goto done
		}
		return t.probe(protoTold, api.GetPrototypeOf)
	case protoTold:
		t.facts.Proto = o.Value
		goto check
	case keysTold:
		t.facts.Keys = slices.Clone(o.Keys)
		goto each
	case eachTold:
		if !o.Found {
			o.Desc = api.Desc{}
		}
		t.facts.Own = append(t.facts.Own, o.Desc)
		goto each
	}
each:
	if n := len(t.facts.Own); n < len(t.facts.Keys) {
		return t.own(eachTold, t.facts.Keys[n])
	}
	goto check
ext:
	return t.probe(extTold, api.IsExtensible)
check:
	return t.check()
done:
	return t.end(t.answer)
refuse:
	return t.refuse()
}
