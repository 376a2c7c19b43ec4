package num

import "bailiff/api"

// Int is the 32 bits of a number.
func Int(x float64) int32 {
	if none(x) || !May(x) {
		return 0
	}
	return int32(int64(x))
}

// Bits does &, |, ^, << (<), >> (>) and >>> (u) with the 32 bits of both.
func Bits(op byte, x, y float64) (float64, api.Errno) {
	if !both(x, y) {
		return 0, api.ErrArg
	}
	a, b := Int(x), Int(y)
	places := uint32(b) & 31
	switch op {
	case '&':
		return float64(a & b), api.OK
	case '|':
		return float64(a | b), api.OK
	case '^':
		return float64(a ^ b), api.OK
	case '<':
		return float64(a << places), api.OK
	case '>':
		return float64(a >> places), api.OK
	case 'u':
		return float64(uint32(a) >> places), api.OK
	}
	return 0, api.ErrArg
}
