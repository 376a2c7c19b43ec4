package num_test

import (
	"math"
	"strings"
	"testing"

	"bailiff/api"
	"bailiff/num"
)

const ops = "&|^<>u"

// P1.3

func TestInt(t *testing.T) {
	for i, c := range []struct {
		x float64
		n int32
	}{
		{0, 0}, {1, 1}, {-1, -1}, {nan, 0},
		{2147483647, 2147483647}, {2147483648, -2147483648}, {-2147483648, -2147483648}, {-2147483649, 2147483647},
		{4294967295, -1}, {4294967296, 0}, {4294967297, 1}, {-4294967295, 1}, {-4294967296, 0}, {-4294967297, -1},
		{6442450943, 2147483647}, {6442450944, -2147483648},
		{most, -1}, {-most, 1}, {most - 1, -2}, {1 << 52, 0},
	} {
		if n := num.Int(c.x); n != c.n {
			t.Error(i, c.x, n)
		}
	}
	for _, x := range odd() {
		if n := num.Int(x); n != 0 {
			t.Error(x, n)
		}
	}
}

func TestIntDiffersByAMultiple(t *testing.T) {
	for _, x := range ours()[1:] {
		if d := int64(x) - int64(num.Int(x)); d%(1<<32) != 0 {
			t.Error(x, num.Int(x))
		}
	}
}

func TestBits(t *testing.T) {
	for i, c := range []struct {
		op      byte
		x, y, z float64
	}{
		{'&', 12, 10, 8}, {'|', 12, 10, 14}, {'^', 12, 10, 6},
		{'&', -1, 4294967297, 1}, {'|', nan, 4294967297, 1}, {'^', -1, 1, -2}, {'^', nan, nan, 0}, {'^', 5, 5, 0},
		{'<', 1, 31, -2147483648}, {'<', 1, 32, 1}, {'<', 1, 33, 2}, {'<', 1, -1, -2147483648}, {'<', 3, 31, -2147483648}, {'<', 5, nan, 5}, {'<', -1, 4, -16},
		{'>', -8, 1, -4}, {'>', -1, 31, -1}, {'>', 2147483647, 30, 1}, {'>', 2147483648, 31, -1}, {'>', -8, 33, -4}, {'>', 7, 1, 3},
		{'u', -1, 0, 4294967295}, {'u', -1, 28, 15}, {'u', -1, 31, 1}, {'u', -1, 32, 4294967295}, {'u', 8, 1, 4}, {'u', nan, 0, 0},
	} {
		if z, e := num.Bits(c.op, c.x, c.y); e != api.OK || !same(z, c.z) {
			t.Error(i, string(c.op), c.x, c.y, z, e)
		}
	}
}

// byHand goes through the 32 bits one by one.
func byHand(op byte, x, y float64) float64 {
	worth := func(x float64) (b [32]bool) {
		if x != x {
			return b
		}
		n := int64(x)
		for i := range b {
			b[i] = n>>i&1 == 1
		}
		return b
	}
	a, b := worth(x), worth(y)
	places := 0
	for i := range 5 {
		if b[i] {
			places += 1 << i
		}
	}
	var z [32]bool
	for i := range z {
		switch op {
		case '&':
			z[i] = a[i] && b[i]
		case '|':
			z[i] = a[i] || b[i]
		case '^':
			z[i] = a[i] != b[i]
		case '<':
			z[i] = i >= places && a[max(i-places, 0)]
		case '>':
			z[i] = a[min(i+places, 31)]
		case 'u':
			z[i] = i+places < 32 && a[min(i+places, 31)]
		}
	}
	sum := 0.0
	for i, on := range z {
		if on && i == 31 && op != 'u' {
			sum -= math.Ldexp(1, 31)
		} else if on {
			sum += math.Ldexp(1, i)
		}
	}
	return sum
}

func TestBitsOneByOne(t *testing.T) {
	l := ours()
	for _, op := range []byte(ops) {
		for _, x := range l {
			for _, y := range l {
				if z, e := num.Bits(op, x, y); e != api.OK || !same(z, byHand(op, x, y)) {
					t.Error(string(op), x, y, z, e)
				}
			}
		}
	}
}

func TestBitsRefuse(t *testing.T) {
	for op := range 256 {
		_, e := num.Bits(byte(op), 3, 1)
		if may := strings.IndexByte(ops, byte(op)) >= 0; may != (e == api.OK) || !may && e != api.ErrArg {
			t.Error(op, e)
		}
		for _, x := range odd() {
			if z, e := num.Bits(byte(op), x, 1); e != api.ErrArg || !same(z, 0) {
				t.Error(op, x, z, e)
			}
			if z, e := num.Bits(byte(op), nan, x); e != api.ErrArg || !same(z, 0) {
				t.Error(op, x, z, e)
			}
		}
	}
	if z, e := num.Bits('x', nan, 1); e != api.ErrArg || !same(z, 0) {
		t.Error(z, e)
	}
}

// P1.7

func TestBitsTwice(t *testing.T) {
	l := ours()
	for _, x := range l {
		for _, y := range l {
			z, _ := num.Bits('^', x, y)
			if z, e := num.Bits('^', z, y); e != api.OK || !same(z, float64(num.Int(x))) {
				t.Error(x, y, z, e)
			}
		}
	}
}
