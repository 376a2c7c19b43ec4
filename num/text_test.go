package num_test

import (
	"strings"
	"testing"

	"bailiff/api"
	"bailiff/num"
)

// P1.5

func TestText(t *testing.T) {
	for i, c := range []struct {
		x float64
		s string
	}{
		{nan, "NaN"}, {0, "0"}, {7, "7"}, {-12, "-12"}, {1000, "1000"}, {1 << 52, "4503599627370496"},
		{most, "9007199254740991"}, {-most, "-9007199254740991"}, {most - 1, "9007199254740990"},
	} {
		if s := num.Text(c.x); s != c.s {
			t.Error(i, c.x, s)
		}
	}
	for _, x := range odd() {
		if s := num.Text(x); s != "" {
			t.Error(x, s)
		}
	}
}

func TestRead(t *testing.T) {
	many := strings.Repeat("0", 5000)
	for i, c := range []struct {
		s string
		x float64
		e api.Errno
	}{
		{" 007 ", 7, api.OK}, {"-0", 0, api.ErrInexact}, {"1.5", nan, api.OK}, {"", 0, api.OK}, {"9007199254740992", 0, api.ErrInexact},
		{"0", 0, api.OK}, {"+0", 0, api.OK}, {"+12", 12, api.OK}, {"-12", -12, api.OK}, {"-000", 0, api.ErrInexact}, {"-0012", -12, api.OK},
		{"9007199254740991", most, api.OK}, {"-9007199254740991", -most, api.OK}, {"+9007199254740991", most, api.OK},
		{"-9007199254740992", 0, api.ErrInexact}, {"9007199254740993", 0, api.ErrInexact}, {"90071992547409910", 0, api.ErrInexact}, {"9007199254740999", 0, api.ErrInexact},
		{many + "9007199254740991", most, api.OK}, {"-" + many + "3", -3, api.OK}, {"-" + many, 0, api.ErrInexact},
		{"9" + many, 0, api.ErrInexact}, {"-9" + many, 0, api.ErrInexact}, {"9" + many + "x", nan, api.OK}, {"9007199254740992 1", nan, api.OK},
		{" \t\r\n", 0, api.OK}, {"\t\r\n -5\n\r\t ", -5, api.OK}, {"\v1", nan, api.OK}, {"1\f", nan, api.OK}, {"\u00a01", nan, api.OK}, {"1\x00", nan, api.OK},
		{"+", nan, api.OK}, {"-", nan, api.OK}, {" - ", nan, api.OK}, {"+ 1", nan, api.OK}, {"- 0", nan, api.OK}, {"--1", nan, api.OK}, {"+-1", nan, api.OK}, {"-+0", nan, api.OK}, {"1-", nan, api.OK},
		{"1 2", nan, api.OK}, {"1\t2", nan, api.OK}, {"12a", nan, api.OK}, {"a12", nan, api.OK}, {"0x10", nan, api.OK}, {"1e3", nan, api.OK}, {"1_0", nan, api.OK}, {"1.", nan, api.OK}, {".1", nan, api.OK},
		{"NaN", nan, api.OK}, {"Infinity", nan, api.OK}, {"\xff", nan, api.OK}, {"1\xff", nan, api.OK}, {"\u0661", nan, api.OK}, {"/", nan, api.OK}, {":", nan, api.OK},
	} {
		if x, e := num.Read(c.s); e != c.e || !same(x, c.x) {
			t.Error(i, len(c.s), x, e)
		}
	}
}

func TestReadOfOneByte(t *testing.T) {
	for b := range 256 {
		want := nan
		switch {
		case b == 9 || b == 10 || b == 13 || b == 32:
			want = 0
		case '0' <= b && b <= '9':
			want = float64(b - '0')
		}
		if x, e := num.Read(string([]byte{byte(b)})); e != api.OK || !same(x, want) {
			t.Error(b, x, e)
		}
	}
}

// P1.7

func TestReadOfText(t *testing.T) {
	for _, x := range ours() {
		if z, e := num.Read(num.Text(x)); e != api.OK || !same(z, x) {
			t.Error(x, z, e)
		}
	}
}
