// Package num is layer 1: the whole numbers that a float tells exactly, and no number.
package num

import (
	"math"

	"bailiff/api"
)

// May tells whether a float is one of our numbers.
func May(x float64) bool {
	return none(x) || whole(x) && -api.MaxSafe <= x && x <= api.MaxSafe
}

// none tells whether x is no number: nothing else differs from itself.
func none(x float64) bool { return x != x }

// whole lets infinite floats through, and refuses a minus nought, which is equal to 0.
func whole(x float64) bool {
	return x == math.Trunc(x) && !(x == 0 && math.Signbit(x))
}

// Add, Sub, Mul, Div, Rem: ErrArg of what is none of our numbers, ErrInexact where the worth is none.
func Add(x, y float64) (float64, api.Errno) {
	if !both(x, y) {
		return 0, api.ErrArg
	}
	return tell(x + y)
}

func Sub(x, y float64) (float64, api.Errno) {
	if !both(x, y) {
		return 0, api.ErrArg
	}
	return tell(x - y)
}

func Mul(x, y float64) (float64, api.Errno) {
	if !both(x, y) {
		return 0, api.ErrArg
	}
	return tell(x * y)
}

// Div needs no look at what is left: a quotient by y that is not whole lies at least 1/|y| away from the next whole number. That is more than half a step of the floats there, so it is never rounded to a whole one.
func Div(x, y float64) (float64, api.Errno) {
	if !both(x, y) {
		return 0, api.ErrArg
	}
	return tell(x / y)
}

// Rem takes Mod, since that is exact and keeps the sign of x: nothing left of a number below 0 comes out as a minus nought.
func Rem(x, y float64) (float64, api.Errno) {
	if !both(x, y) {
		return 0, api.ErrArg
	}
	return tell(math.Mod(x, y))
}

// Neg of 0 would be a minus nought: ErrInexact.
func Neg(x float64) (float64, api.Errno) {
	if !May(x) {
		return 0, api.ErrArg
	}
	return tell(-x)
}

func both(x, y float64) bool { return May(x) && May(y) }

// tell refuses a worth that is none of our numbers. Rounding can't hide one: a whole worth beyond MaxSafe becomes a float that is beyond it, too.
func tell(worth float64) (float64, api.Errno) {
	if !May(worth) {
		return 0, api.ErrInexact
	}
	return worth, api.OK
}

// Less is 1 if x is below y, 0 if not, -1 where one is no number.
func Less(x, y float64) int {
	switch {
	case none(x) || none(y):
		return -1
	case x < y:
		return 1
	}
	return 0
}

// Index is a number as an index, and whether it is one.
func Index(x float64) (int, bool) {
	if !whole(x) || x < 0 || x >= api.MaxLength {
		return 0, false
	}
	return int(x), true
}
