package value

import (
	"math"

	"bailiff/api"
	"bailiff/num"
)

// Same tells whether two values are one, no number being the same as itself. An object is one by its number alone: what it can do is no part of which one it is.
func Same(a, b api.Value) bool {
	switch {
	case IsObject(a) && IsObject(b):
		return a.Ref == b.Ref
	case a.Kind != b.Kind:
		return false
	case a.Kind == api.Undefined || a.Kind == api.Null:
		return true
	case a.Kind == api.Boolean:
		return a.Num == b.Num
	case a.Kind == api.Number:
		return a.Num == b.Num || none(a) && none(b)
	case a.Kind == api.String:
		return a.Str == b.Str
	case a.Kind == api.Symbol:
		return a.Ref == b.Ref
	}
	return false
}

// Strict is ===: Same, but that no number is not the same as itself.
func Strict(a, b api.Value) bool { return Same(a, b) && !none(a) }

// none tells whether a value is no number.
func none(v api.Value) bool { return v.Kind == api.Number && math.IsNaN(v.Num) }

// Plain is == of two values that are no objects: ErrInexact of a string whose number is none of ours, where it is held against a number.
func Plain(a, b api.Value) (bool, api.Errno) {
	if !plain(a) || !plain(b) {
		return false, api.ErrHeap
	}
	a, b = counted(a), counted(b)
	switch {
	case a.Kind == b.Kind:
		return Strict(a, b), api.OK
	case a.Kind == api.Number && b.Kind == api.String:
		return reads(b.Str, a.Num)
	case a.Kind == api.String && b.Kind == api.Number:
		return reads(a.Str, b.Num)
	}
	return void(a) && void(b), api.OK
}

func plain(v api.Value) bool { return May(v) && !IsObject(v) }

// counted tells a number for a boolean.
func counted(v api.Value) api.Value {
	if v.Kind == api.Boolean {
		return Num(v.Num)
	}
	return v
}

// reads tells whether a string's number is x. One that is none of ours is an error even where x is no number, to which nothing is equal.
func reads(s string, x float64) (bool, api.Errno) {
	y, e := num.Read(s)
	if e != api.OK {
		return false, e
	}
	return x == y, api.OK
}

func void(v api.Value) bool { return v.Kind == api.Undefined || v.Kind == api.Null }
