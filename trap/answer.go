package trap

import (
	"bailiff/api"
	"bailiff/value"
)

// take keeps what the trap answered; descriptors and keys have yet to be read from it.
func (t *Task) take(v api.Value) {
	t.told, t.answer.Kind = v, api.Done
	switch t.ask.Method {
	case api.GetPrototypeOf, api.Get, api.Call, api.Construct:
		t.answer.Value = v
	case api.GetOwnProperty:
		t.answer.Found = value.IsObject(v)
	case api.OwnKeys:
	default:
		t.answer.Bool = value.Truth(v)
	}
}

// absurd tells an answer that is none, whatever the target tells.
func (t *Task) absurd() bool {
	switch t.ask.Method {
	case api.GetPrototypeOf:
		return !leads(t.told)
	case api.GetOwnProperty:
		return t.told.Kind != api.Undefined && !value.IsObject(t.told)
	case api.OwnKeys, api.Construct:
		return !value.IsObject(t.told)
	}
	return false
}

// settled tells an answer that is no lie, whatever the target tells.
func (t *Task) settled() bool {
	switch t.ask.Method {
	case api.SetPrototypeOf, api.PreventExtensions, api.DefineOwnProperty, api.Set, api.Delete:
		return !t.answer.Bool
	case api.HasProperty:
		return t.answer.Bool
	case api.Call, api.Construct:
		return true
	}
	return false
}

// denies tells, of an answer that is not settled, whether by it there is no property.
func (t *Task) denies() bool {
	switch t.ask.Method {
	case api.HasProperty, api.Delete:
		return true
	case api.GetOwnProperty:
		return !t.answer.Found
	}
	return false
}
