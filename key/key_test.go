package key_test

import (
	"fmt"
	"math"
	"testing"

	"bailiff/api"
	"bailiff/key"
)

// P8.1

func TestCheck(t *testing.T) {
	for i, c := range []struct {
		k api.Key
		e api.Errno
	}{
		{of(""), api.OK}, {of("a"), api.OK}, {of("7"), api.OK}, {of("\xff\x00"), api.OK}, {of(long(api.MaxString)), api.OK},
		{of(long(api.MaxString + 1)), api.ErrHeap}, {of(long(api.MaxText + 1)), api.ErrHeap},
		{symbol(0), api.OK}, {symbol(1), api.OK}, {symbol(math.MaxInt - 1), api.OK},
		{both("", -1), api.ErrHeap}, {both("", math.MinInt), api.ErrHeap}, {both("a", -1), api.ErrHeap},
		{both("a", 1), api.ErrHeap}, {both("a", math.MaxInt), api.ErrHeap}, {both("\x00", 2), api.ErrHeap}, {both("0", 1), api.ErrHeap},
		{both(long(api.MaxString), 1), api.ErrHeap}, {both(long(api.MaxString+1), 1), api.ErrHeap}, {both(long(api.MaxString+1), -1), api.ErrHeap},
	} {
		if e := key.Check(c.k); e != c.e {
			t.Error(i, show(c.k), int(e))
		}
	}
}

func TestCheckOfEvery(t *testing.T) {
	yes, no := 0, 0
	for _, k := range every() {
		want := api.ErrHeap
		if k.Sym == 0 && len(k.Str) < 4097 || k.Sym > 0 && len(k.Str) == 0 {
			want = api.OK
			yes++
		} else {
			no++
		}
		if e := key.Check(k); e != want {
			t.Error(show(k), int(e))
		}
	}
	if yes < 100 || no < 1000 {
		t.Error(yes, no)
	}
}

func TestOf(t *testing.T) {
	for _, s := range strs() {
		if k := key.Of(s); k.Str != s || k.Sym != 0 {
			t.Error(show(k))
		}
	}
}

func TestSym(t *testing.T) {
	for _, c := range []struct {
		n int
		k api.Key
	}{
		{0, both("", 1)}, {1, both("", 2)}, {3, both("", 4)}, {4096, both("", 4097)}, {math.MaxInt - 1, both("", math.MaxInt)},
		{math.MaxInt, both("", 0)}, {-1, both("", 0)}, {-2, both("", 0)}, {math.MinInt, both("", 0)}, {math.MinInt + 1, both("", 0)},
	} {
		if k := key.Sym(c.n); k != c.k {
			t.Error(c.n, show(k))
		}
	}
}

func TestNumber(t *testing.T) {
	for _, c := range []struct {
		n int
		s string
	}{
		{0, "0"}, {7, "7"}, {10, "10"}, {99, "99"}, {100, "100"}, {1023, "1023"}, {1024, "1024"}, {-1, "-1"}, {-10, "-10"}, {9007199254740992, "9007199254740992"},
		{math.MaxInt, "9223372036854775807"}, {math.MinInt, "-9223372036854775808"},
	} {
		if k := key.Number(c.n); k != of(c.s) {
			t.Error(c.n, show(k))
		}
	}
}

// P8.2

func TestValue(t *testing.T) {
	for i, c := range []struct {
		k api.Key
		v api.Value
	}{
		{of(""), text("")}, {of("a"), text("a")}, {of("7"), text("7")}, {of("true"), text("true")}, {of(long(5000)), text(long(5000))},
		{symbol(0), sign(0)}, {symbol(3), sign(3)}, {both("", math.MaxInt), sign(math.MaxInt - 1)},
		{both("a", 1), sign(0)}, {both(long(5000), 4), sign(3)}, {both("a", -1), text("a")}, {both("", -1), text("")}, {both("7", math.MinInt), text("7")},
	} {
		if v := key.Value(c.k); v != c.v {
			t.Error(i, show(c.k), showValue(v))
		}
	}
}

func TestValueOfEvery(t *testing.T) {
	for _, k := range every() {
		want := text(k.Str)
		if k.Sym >= 1 {
			want = sign(k.Sym - 1)
		}
		if v := key.Value(k); v != want || math.Signbit(v.Num) {
			t.Error(show(k), showValue(v))
		}
	}
}

func TestExamplesOfPrim(t *testing.T) {
	for i, c := range []struct {
		v api.Value
		k api.Key
		e api.Errno
	}{
		{number(7), of("7"), api.OK}, {boolean(1), of("true"), api.OK}, {number(nan), of("NaN"), api.OK}, {sign(2), symbol(2), api.OK},
		{api.Value{Kind: api.Thing, Ref: 4}, api.Key{}, api.ErrHeap},
	} {
		if k, e := key.Prim(c.v); k != c.k || e != c.e {
			t.Error(i, show(k), int(e))
		}
	}
}

func TestPrim(t *testing.T) {
	for i, c := range []struct {
		v api.Value
		k api.Key
	}{
		{undefined, of("undefined")}, {null, of("null")}, {boolean(0), of("false")}, {boolean(minus), of("false")}, {boolean(1), of("true")},
		{number(0), of("0")}, {number(-1), of("-1")}, {number(10), of("10")}, {number(1023), of("1023")}, {number(1024), of("1024")}, {number(most), of("9007199254740991")}, {number(-most), of("-9007199254740991")}, {number(math.Copysign(nan, -1)), of("NaN")},
		{text(""), of("")}, {text("a"), of("a")}, {text("7"), of("7")}, {text(" 7 "), of(" 7 ")}, {text("a\"\n\xff"), of("a\"\n\xff")}, {text("undefined"), of("undefined")}, {text(long(api.MaxString)), of(long(api.MaxString))},
		{sign(0), symbol(0)}, {sign(1), symbol(1)}, {sign(api.MaxObjects), symbol(api.MaxObjects)}, {sign(math.MaxInt - 1), both("", math.MaxInt)},
		{sign(math.MaxInt), of("")}, // as Sym of the greatest int
	} {
		if k, e := key.Prim(c.v); k != c.k || e != api.OK {
			t.Error(i, showValue(c.v), show(k), int(e))
		}
	}
}

func TestPrimRefuses(t *testing.T) {
	l := []api.Value{
		boolean(2), boolean(-1), boolean(0.5), boolean(nan), boolean(inf), number(minus), number(0.5), number(most + 1), number(-most - 1), number(inf), number(-inf), text(long(api.MaxString + 1)), sign(-1), sign(math.MinInt),
		{Kind: api.Undefined, Str: "a"}, {Kind: api.Undefined, Num: 1}, {Kind: api.Undefined, Num: minus}, {Kind: api.Null, Ref: 1}, {Kind: api.Null, Num: nan}, {Kind: api.Boolean, Num: 1, Ref: 1}, {Kind: api.Number, Num: 7, Str: "7"}, {Kind: api.Number, Num: 7, Ref: 7}, {Kind: api.String, Str: "a", Num: 1}, {Kind: api.String, Str: "a", Ref: -1}, {Kind: api.Symbol, Ref: 1, Str: "a"}, {Kind: api.Symbol, Ref: 1, Num: 1},
	}
	for kind := int(api.Thing); kind < 256; kind++ {
		for _, n := range []int{0, 1, 7, -1, math.MaxInt} {
			l = append(l, api.Value{Kind: uint8(kind), Ref: n}, api.Value{Kind: uint8(kind), Ref: n, Str: "a"}, api.Value{Kind: uint8(kind), Ref: n, Num: 7})
		}
	}
	for _, v := range l {
		if k, e := key.Prim(v); k != (api.Key{}) || e != api.ErrHeap {
			t.Error(showValue(v), show(k), int(e))
		}
	}
}

// P8.3

func TestExamplesOfIndex(t *testing.T) {
	for i, c := range []struct {
		k  api.Key
		n  int
		is bool
	}{{of("1023"), 1023, true}, {of("1024"), 0, false}, {of("01"), 0, false}, {of("-1"), 0, false}, {symbol(3), 0, false}} {
		if n, is := key.Index(c.k); n != c.n || is != c.is {
			t.Error(i, n, is)
		}
	}
}

func TestIndexOfEvery(t *testing.T) {
	is := indices()
	yes := 0
	for _, k := range every() {
		holdIndex(t, is, k)
		if _, ok := key.Index(k); ok {
			yes++
		}
	}
	if yes != 4*10 { // ten of the strings are one, with four of the symbols
		t.Error(yes)
	}
}

func holdIndex(t *testing.T, is map[string]int, k api.Key) {
	t.Helper()
	want, ok := is[k.Str]
	if k.Sym > 0 {
		want, ok = 0, false
	}
	if n, got := key.Index(k); n != want || got != ok {
		t.Error(show(k), n, got)
	}
}

// all are the strings of at most so many of these bytes.
func all(bytes string, most int, do func(s string)) {
	var on func(s string)
	on = func(s string) {
		do(s)
		if len(s) < most {
			for i := range len(bytes) {
				on(s + bytes[i:i+1])
			}
		}
	}
	on("")
}

func TestIndexOfAllShort(t *testing.T) {
	is := indices()
	for _, bytes := range []string{"0123456789", "0124-+ x", "019.e\t\n"} {
		all(bytes, 5, func(s string) {
			holdIndex(t, is, of(s))
			holdIndex(t, is, both(s, 1))
			holdIndex(t, is, both(s, -1))
		})
	}
	for c := range 256 {
		for d := range 256 {
			one := string([]byte{byte(c), byte(d)})
			holdIndex(t, is, of(one))
			holdIndex(t, is, of("1"+one))
			holdIndex(t, is, of(one+"0"))
		}
	}
}

// P8.5

func TestText(t *testing.T) {
	for i, c := range []struct {
		k api.Key
		s string
	}{
		{of(""), `""`}, {of("a"), `"a"`}, {of("7"), `"7"`}, {of("symbol 1"), `"symbol 1"`}, {of("a\"\\\n\t\r\x00\x7f\xff"), `"a\"\\\n\t\r\x00\x7f\xff"`}, {of(long(5000)), `"` + long(5000) + `"`},
		{symbol(0), "symbol 0"}, {symbol(1), "symbol 1"}, {symbol(12), "symbol 12"}, {both("", math.MaxInt), "symbol 9223372036854775806"},
		{both("a", 1), "symbol 0"}, {both(long(5000), 10), "symbol 9"}, {both("a", -1), `"a"`}, {both("", math.MinInt), `""`},
	} {
		if s := key.Text(c.k); s != c.s {
			t.Error(i, show(c.k), s)
		}
	}
}

func TestTextOfEvery(t *testing.T) {
	for _, k := range every() {
		want := quoted(k.Str)
		if k.Sym > 0 {
			want = fmt.Sprint("symbol ", k.Sym-1)
		}
		if s := key.Text(k); s != want {
			t.Error(show(k), s)
		}
	}
}

// quoted writes byte by byte.
func quoted(s string) string {
	out := []byte{'"'}
	for _, c := range []byte(s) {
		switch c {
		case '"', '\\':
			out = append(out, '\\', c)
		case 10:
			out = append(out, `\n`...)
		case 9:
			out = append(out, `\t`...)
		case 13:
			out = append(out, `\r`...)
		default:
			if c < 32 || c > 126 {
				out = fmt.Appendf(out, `\x%02x`, c)
			} else {
				out = append(out, c)
			}
		}
	}
	return string(append(out, '"'))
}

// P8.6

func TestPrimOfValue(t *testing.T) {
	for _, k := range append(well(), every()...) {
		if key.Check(k) != api.OK {
			continue
		}
		if again, e := key.Prim(key.Value(k)); again != k || e != api.OK {
			t.Error(show(k), show(again), int(e))
		}
	}
}

func TestIndexOfNumber(t *testing.T) {
	for n := range 1024 {
		if m, is := key.Index(key.Number(n)); m != n || !is {
			t.Error(n, m, is)
		}
	}
	for _, n := range []int{-1, -1023, 1024, 1025, 10000, 1 << 32, 1<<32 + 1, 1 << 53, math.MaxInt, math.MinInt} {
		if m, is := key.Index(key.Number(n)); m != 0 || is {
			t.Error(n, m, is)
		}
	}
}

func TestTextsDiffer(t *testing.T) {
	seen := map[string]api.Key{}
	for _, k := range well() {
		if key.Check(k) != api.OK {
			t.Error(show(k), "may be")
		}
		s := key.Text(k)
		if other, is := seen[s]; is {
			t.Error(show(k), show(other), s)
		}
		seen[s] = k
	}
}

func TestMadeMay(t *testing.T) {
	for _, k := range []api.Key{key.Of(""), key.Of(long(api.MaxString)), key.Sym(0), key.Sym(math.MaxInt - 1), key.Sym(math.MaxInt), key.Sym(-1), key.Number(math.MinInt)} {
		if e := key.Check(k); e != api.OK {
			t.Error(show(k), int(e))
		}
	}
	if e := key.Check(key.Of(long(api.MaxString + 1))); e != api.ErrHeap {
		t.Error(int(e))
	}
}
