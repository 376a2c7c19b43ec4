package coerce

import (
	"bailiff/api"
	"bailiff/key"
	"bailiff/value"
)

// Hints.
const (
	noHint   uint8 = 0
	byNumber uint8 = 1
	byString uint8 = 2
)

// toPrimitive is the symbol by which an object has a way of its own to its primitive.
const toPrimitive = 0

// methods is how many methods an object without such a way is asked for.
const methods = 2

// A step is what a Task is to be given next.
type step uint8

const (
	unmade     step = iota // of a Task that Start did not make
	begun                  // anything
	ownWayGot              // the object's own way, if it has one
	ownWayCame             // what that comes to
	methodGot              // one of its methods
	methodCame             // what that comes to
	ended
)

// come takes what came of what was wanted on the way to a primitive.
func (t *Task) come(v api.Value) api.Want {
	switch t.step {
	case ownWayGot:
		switch {
		case void(v):
			return t.method()
		case value.Calls(v):
			return t.call(ownWayCame, v, value.Str(hintWord(t.hint)))
		}
	case ownWayCame:
		if !value.IsObject(v) {
			return t.take(v)
		}
	case methodGot:
		if value.Calls(v) {
			return t.call(methodCame, v)
		}
		return t.nextMethod()
	case methodCame:
		if !value.IsObject(v) {
			return t.take(v)
		}
		return t.nextMethod()
	}
	return t.end(failed(refused))
}

// take keeps the primitive that was sought, and goes on.
func (t *Task) take(v api.Value) api.Want {
	t.keep(v)
	return t.lead()
}

// method wants the method that is sought in turn.
func (t *Task) method() api.Want {
	return t.get(methodGot, key.Of(methodWord(t.hint, t.turn)))
}

// nextMethod wants the one behind it; behind the last one nothing is left by which a primitive could come.
func (t *Task) nextMethod() api.Want {
	t.turn++
	if t.turn == methods {
		return t.end(failed(refused))
	}
	return t.method()
}

// get wants what the object has by a key; the step is what is given then.
func (t *Task) get(s step, k api.Key) api.Want {
	t.step = s
	return api.Want{Kind: api.WantMethod, Ask: api.Ask{Method: api.Get, Object: t.of.Ref, Key: k, Receiver: t.of}}
}

// call wants that a function is called on the object.
func (t *Task) call(s step, f api.Value, args ...api.Value) api.Want {
	t.step = s
	return api.Want{Kind: api.WantCall, Func: f, This: t.of, Args: args}
}

// hintWord is a hint as an object's own way is told it.
func hintWord(hint uint8) string {
	switch hint {
	case byNumber:
		return "number"
	case byString:
		return "string"
	}
	return "default"
}

// methodWord is the method that is sought in turn, from 0 on.
func methodWord(hint uint8, turn int) string {
	if (hint == byString) == (turn == 0) {
		return "toString"
	}
	return "valueOf"
}

// void tells what stands for a way that is not there.
func void(v api.Value) bool { return v.Kind == api.Undefined || v.Kind == api.Null }
