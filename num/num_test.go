package num_test

import (
	"math"
	"math/big"
	"testing"

	"bailiff/api"
	"bailiff/num"
)

const most = float64(api.MaxSafe)

var (
	nan   = math.NaN()
	inf   = math.Inf(1)
	minus = math.Copysign(0, -1)
)

type sum = func(x, y float64) (float64, api.Errno)

// same tells a minus nought from 0, too.
func same(x, y float64) bool {
	return x != x && y != y || x == y && math.Signbit(x) == math.Signbit(y)
}

// ours are numbers that may be handed in: small ones, powers of two and their neighbours, the ends, and no number.
func ours() []float64 {
	l := []float64{nan, 0, 1, 2, 3, 5, 7, 10, 97, 1000, 1023, 1024, 94906265, 94906266, 3037000500, most, most - 1, most - 2, (most - 1) / 2, 3002399751580330, 6004799503160661}
	for _, p := range []int{8, 16, 26, 27, 30, 31, 32, 33, 45, 51, 52} {
		x := math.Ldexp(1, p)
		l = append(l, x-1, x, x+1)
	}
	for _, x := range l {
		if x > 0 {
			l = append(l, -x)
		}
	}
	return l
}

// odd are floats that are none of our numbers.
func odd() []float64 {
	return []float64{minus, 0.5, -0.5, 1.5, -7.25, most + 1, -most - 1, most + 3, 1e300, -1e300, math.MaxFloat64, math.SmallestNonzeroFloat64, -math.SmallestNonzeroFloat64, math.Nextafter(1, 2), inf, -inf}
}

func sums() map[string]sum {
	return map[string]sum{"Add": num.Add, "Sub": num.Sub, "Mul": num.Mul, "Div": num.Div, "Rem": num.Rem}
}

// P1.1

func TestMay(t *testing.T) {
	for _, x := range ours() {
		if !num.May(x) {
			t.Error(x, "may be")
		}
	}
	for _, x := range odd() {
		if num.May(x) {
			t.Error(x, "may not be")
		}
	}
}

// P1.2

func TestExamplesOfSums(t *testing.T) {
	for i, c := range []struct {
		f       sum
		x, y, z float64
		e       api.Errno
	}{
		{num.Add, 9007199254740990, 1, 9007199254740991, api.OK},
		{num.Add, 9007199254740991, 1, 0, api.ErrInexact},
		{num.Add, 9007199254740991, 9007199254740991, 0, api.ErrInexact},
		{num.Add, -9007199254740990, -1, -9007199254740991, api.OK},
		{num.Add, -9007199254740991, -1, 0, api.ErrInexact},
		{num.Add, -5, 5, 0, api.OK},
		{num.Add, 0, 0, 0, api.OK},
		{num.Sub, 0, 0, 0, api.OK},
		{num.Sub, 0, 3, -3, api.OK},
		{num.Sub, 9007199254740991, -1, 0, api.ErrInexact},
		{num.Sub, -9007199254740991, 1, 0, api.ErrInexact},
		{num.Mul, 0, -5, 0, api.ErrInexact},
		{num.Mul, -5, 0, 0, api.ErrInexact},
		{num.Mul, 0, 5, 0, api.OK},
		{num.Mul, 0, 0, 0, api.OK},
		{num.Mul, -3, -4, 12, api.OK},
		{num.Mul, 94906265, 94906265, 9007199136250225, api.OK},
		{num.Mul, 94906266, 94906266, 0, api.ErrInexact},
		{num.Mul, 9007199254740991, -1, -9007199254740991, api.OK},
		{num.Div, 1, 0, 0, api.ErrInexact},
		{num.Div, -1, 0, 0, api.ErrInexact},
		{num.Div, 0, 0, nan, api.OK},
		{num.Div, 0, -1, 0, api.ErrInexact},
		{num.Div, 0, 4, 0, api.OK},
		{num.Div, 7, 2, 0, api.ErrInexact},
		{num.Div, -6, 2, -3, api.OK},
		{num.Div, 9007199254740991, 9007199254740990, 0, api.ErrInexact},
		{num.Div, 9007199254740990, 9007199254740991, 0, api.ErrInexact},
		{num.Div, 9007199254740991, 2, 0, api.ErrInexact},
		{num.Rem, -7, 2, -1, api.OK},
		{num.Rem, -4, 2, 0, api.ErrInexact},
		{num.Rem, -4, -2, 0, api.ErrInexact},
		{num.Rem, 4, -2, 0, api.OK},
		{num.Rem, 7, -2, 1, api.OK},
		{num.Rem, 7, 0, nan, api.OK},
		{num.Rem, -7, 0, nan, api.OK},
		{num.Rem, 0, 0, nan, api.OK},
		{num.Rem, 0, -3, 0, api.OK},
		{num.Rem, 3, 9007199254740991, 3, api.OK},
		{num.Rem, 9007199254740991, 3, 1, api.OK},
	} {
		if z, e := c.f(c.x, c.y); e != c.e || !same(z, c.z) {
			t.Error(i, c.x, c.y, z, e)
		}
	}
}

// model reckons without limits; whole tells whether the worth is a whole number, minus whether it is a minus nought.
func model(name string, x, y *big.Int) (worth *big.Int, whole, minus bool) {
	worth, zero := new(big.Int), new(big.Int)
	switch name {
	case "Add":
		return worth.Add(x, y), true, false
	case "Sub":
		return worth.Sub(x, y), true, false
	case "Mul":
		worth.Mul(x, y)
		return worth, true, worth.Sign() == 0 && x.Sign()+y.Sign() < 0
	case "Div":
		worth.QuoRem(x, y, zero)
		return worth, zero.Sign() == 0, worth.Sign() == 0 && y.Sign() < 0
	default:
		worth.Rem(x, y)
		return worth, true, worth.Sign() == 0 && x.Sign() < 0
	}
}

func expect(name string, x, y float64) (float64, api.Errno) {
	switch {
	case x != x || y != y:
		return nan, api.OK
	case y == 0 && name == "Rem", y == 0 && name == "Div" && x == 0:
		return nan, api.OK
	case y == 0 && name == "Div":
		return 0, api.ErrInexact
	}
	worth, whole, minus := model(name, big.NewInt(int64(x)), big.NewInt(int64(y)))
	if !whole || minus || worth.CmpAbs(big.NewInt(api.MaxSafe)) > 0 {
		return 0, api.ErrInexact
	}
	return float64(worth.Int64()), api.OK
}

func TestSumsAreExact(t *testing.T) {
	l := ours()
	for name, f := range sums() {
		for _, x := range l {
			for _, y := range l {
				z, e := f(x, y)
				if w, d := expect(name, x, y); e != d || !same(z, w) {
					t.Error(name, x, y, "answers", z, int(e), "not", w, int(d))
				}
			}
		}
	}
}

// Each divisor with what lies beside a multiple of it close to the end, where floats have the least room for a fraction.
func TestQuotientsThatAreNotWhole(t *testing.T) {
	for y := 1.0; y < 3000; y++ {
		k := math.Floor(most/y) * y
		for x := k - 2; x <= k+2 && x <= most; x++ {
			for name, f := range map[string]sum{"Div": num.Div, "Rem": num.Rem} {
				z, e := f(x, y)
				if w, d := expect(name, x, y); e != d || !same(z, w) {
					t.Error(name, x, y, "answers", z, int(e), "not", w, int(d))
				}
			}
		}
	}
}

func TestSumsOfNoNumber(t *testing.T) {
	for name, f := range sums() {
		for _, x := range ours() {
			if z, e := f(nan, x); e != api.OK || z == z {
				t.Error(name, nan, x, z, e)
			}
			if z, e := f(x, nan); e != api.OK || z == z {
				t.Error(name, x, nan, z, e)
			}
		}
	}
}

func TestSumsRefuse(t *testing.T) {
	for name, f := range sums() {
		for _, x := range odd() {
			for _, y := range append(ours(), odd()...) {
				if z, e := f(x, y); e != api.ErrArg || !same(z, 0) {
					t.Error(name, x, y, z, e)
				}
				if z, e := f(y, x); e != api.ErrArg || !same(z, 0) {
					t.Error(name, y, x, z, e)
				}
			}
		}
	}
}

func TestNeg(t *testing.T) {
	for _, x := range ours() {
		z, e := num.Neg(x)
		if x == 0 {
			if e != api.ErrInexact || !same(z, 0) {
				t.Error(x, z, e)
			}
		} else if e != api.OK || !same(z, -x) {
			t.Error(x, z, e)
		}
	}
	for _, x := range odd() {
		if z, e := num.Neg(x); e != api.ErrArg || !same(z, 0) {
			t.Error(x, z, e)
		}
	}
}

// P1.4

func TestLess(t *testing.T) {
	row := []float64{-inf, -1e300, -most - 1, -most, -1, -0.5, minus, 0.25, 1, 1.5, most, most + 1, inf}
	for i, x := range row {
		for j, y := range row {
			want := 0
			if i < j {
				want = 1
			}
			if l := num.Less(x, y); l != want {
				t.Error(x, y, l)
			}
		}
		if num.Less(x, nan) != -1 || num.Less(nan, x) != -1 {
			t.Error(x, "beside no number")
		}
	}
	if num.Less(nan, nan) != -1 || num.Less(minus, 0) != 0 || num.Less(0, minus) != 0 {
		t.Error("no number, or noughts")
	}
}

// P1.6

func TestIndex(t *testing.T) {
	for i := 0; i < api.MaxLength; i++ {
		if n, is := num.Index(float64(i)); n != i || !is {
			t.Error(i, n, is)
		}
	}
	for _, x := range append(odd(), nan, -1, -2, api.MaxLength, api.MaxLength+1, api.MaxLength-0.5, most, -most) {
		if n, is := num.Index(x); n != 0 || is {
			t.Error(x, n, is)
		}
	}
}

// P1.7

func TestWhatWasDoneIsUndone(t *testing.T) {
	l := ours()[1:] // without no number
	for _, x := range l {
		for _, y := range l {
			if z, e := num.Add(x, y); e == api.OK {
				if w, e := num.Sub(z, y); e != api.OK || !same(w, x) {
					t.Error(x, y, "added, taken away", w, e)
				}
			}
			z, e := num.Mul(x, y)
			if e != api.OK || y == 0 {
				continue
			}
			if w, e := num.Div(z, y); e == api.OK && !same(w, x) {
				t.Error(x, y, "multiplied, divided", w)
			}
		}
	}
}

func TestQuotientAndRest(t *testing.T) {
	l := ours()[1:]
	for _, x := range l {
		for _, y := range l {
			if q, e := num.Div(x, y); e == api.OK && q == q {
				if z, e := num.Mul(y, q); e == api.OK && !same(z, x) {
					t.Error(x, y, "times the quotient", z)
				}
			}
			r, e := num.Rem(x, y)
			if e != api.OK || y == 0 {
				continue
			}
			a, b := big.NewInt(int64(x)), big.NewInt(int64(y))
			z := new(big.Int).Mul(b, new(big.Int).Quo(a, b))
			if z.Add(z, big.NewInt(int64(r))).Cmp(a) != 0 {
				t.Error(x, y, "times the quotient, and the rest", z)
			}
		}
	}
}
