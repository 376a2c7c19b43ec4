package coerce

import (
	"math"

	"bailiff/api"
	"bailiff/key"
	"bailiff/num"
	"bailiff/str"
	"bailiff/value"
)

// refused is the error of a value that can't be what is needed.
const refused = api.ErrHeap

// failed is an error as the end that the script sees.
func failed(e api.Errno) api.Out {
	switch e {
	case api.ErrInexact:
		return api.Out{Kind: api.Fail, Error: api.RangeError, Text: "inexact"}
	case api.ErrRange:
		return api.Out{Kind: api.Fail, Error: api.RangeError, Text: "too many"}
	}
	return api.Out{Kind: api.Fail, Error: api.TypeError, Text: "type"}
}

// number is the number of a primitive. A boolean may have a minus nought, so its Num is not handed on.
func number(v api.Value) (float64, api.Errno) {
	switch {
	case v.Kind == api.Undefined:
		return math.NaN(), api.OK
	case v.Kind == api.Number:
		return v.Num, api.OK
	case v.Kind == api.String:
		return num.Read(v.Str)
	case v.Kind == api.Symbol:
		return 0, refused
	case value.Truth(v):
		return 1, api.OK
	}
	return 0, api.OK
}

// numbers are the numbers of two primitives; the first one's error comes first.
func numbers(v, w api.Value) (float64, float64, api.Errno) {
	x, e := number(v)
	if e != api.OK {
		return 0, 0, e
	}
	y, e := number(w)
	return x, y, e
}

// text is the string of a primitive.
func text(v api.Value) (string, api.Errno) {
	if v.Kind == api.Symbol {
		return "", refused
	}
	k, e := key.Prim(v)
	return k.Str, e
}

// joined is the strings of two primitives, the one behind the other.
func joined(v, w api.Value) (string, api.Errno) {
	a, e := text(v)
	if e != api.OK {
		return "", e
	}
	b, e := text(w)
	if e != api.OK {
		return "", e
	}
	return str.Join(a, b)
}
