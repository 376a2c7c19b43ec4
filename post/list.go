package post

import (
	"bailiff/api"
)

// has tells whether a list holds a thing; which two things are one, same tells.
func has[T any](l []T, x T, same func(a, b T) bool) bool {
	for _, y := range l {
		if same(x, y) {
			return true
		}
	}
	return false
}

// all tells whether a list holds each thing of another one.
func all[T any](l, things []T, same func(a, b T) bool) bool {
	for _, x := range things {
		if !has(l, x, same) {
			return false
		}
	}
	return true
}

// twice tells whether a thing stands twice in a list.
func twice[T any](l []T, same func(a, b T) bool) bool {
	for i, x := range l {
		if has(l[:i], x, same) {
			return true
		}
	}
	return false
}

// same tells whether two keys that may be are one.
func same(a, b api.Key) bool { return a == b }
