package str_test

import (
	"math"
	"strings"
	"testing"
	"unsafe"

	"bailiff/api"
	"bailiff/str"
)

var (
	nan   = math.NaN()
	inf   = math.Inf(1)
	minus = math.Copysign(0, -1)
)

// all are the strings of at most so many of some bytes.
func all(bytes string, most int) []string {
	l := []string{""}
	from := 0
	for range most {
		to := len(l)
		for _, s := range l[from:to] {
			for i := range len(bytes) {
				l = append(l, s+bytes[i:i+1])
			}
		}
		from = to
	}
	return l
}

// every is a string of all bytes, from 0 to 255.
func every() string {
	b := make([]byte, 256)
	for i := range b {
		b[i] = byte(i)
	}
	return string(b)
}

func long(n int) string { return strings.Repeat("a", n) }

// P2.1

func TestJoin(t *testing.T) {
	for i, c := range []struct {
		a, b string
		e    api.Errno
	}{
		{"", "", api.OK}, {"ab", "c", api.OK}, {"", "c", api.OK}, {"c", "", api.OK}, {"\xc3", "\xa9", api.OK}, {"\xff\x00", "\x80", api.OK}, {every(), every(), api.OK},
		{long(api.MaxString), "", api.OK}, {"", long(api.MaxString), api.OK}, {long(api.MaxString - 1), "b", api.OK}, {"b", long(api.MaxString - 1), api.OK},
		{long(api.MaxString), "b", api.ErrRange}, {"b", long(api.MaxString), api.ErrRange}, {long(api.MaxString + 1), "", api.ErrRange}, {"", long(api.MaxString + 1), api.ErrRange}, {long(1 << 20), long(1 << 20), api.ErrRange},
	} {
		want := ""
		if c.e == api.OK {
			want = c.a + c.b
		}
		if s, e := str.Join(c.a, c.b); s != want || e != c.e {
			t.Error(i, len(s), int(e))
		}
	}
}

func TestRepeat(t *testing.T) {
	for i, c := range []struct {
		s    string
		n    int
		want string
		e    api.Errno
	}{
		{"ab", 2, "abab", api.OK}, {"a", -1, "", api.ErrArg}, {"a", 4097, "", api.ErrRange}, {"", 9, "", api.OK},
		{"ab", 0, "", api.OK}, {"ab", 1, "ab", api.OK}, {"\xff\x00", 3, "\xff\x00\xff\x00\xff\x00", api.OK},
		{"a", api.MaxString, long(api.MaxString), api.OK}, {long(2), api.MaxString / 2, long(api.MaxString), api.OK}, {"ab", api.MaxString/2 + 1, "", api.ErrRange},
		{long(3), 1365, long(4095), api.OK}, {long(3), 1366, "", api.ErrRange},
		{long(api.MaxString), 1, long(api.MaxString), api.OK}, {long(api.MaxString), 2, "", api.ErrRange},
		{long(api.MaxString + 1), 0, "", api.OK}, {long(api.MaxString + 1), 1, "", api.ErrRange}, {long(api.MaxString + 1), -1, "", api.ErrArg},
		{"", 0, "", api.OK}, {"", math.MaxInt, "", api.OK}, {"", -1, "", api.ErrArg}, {"", math.MinInt, "", api.ErrArg}, {"a", math.MinInt, "", api.ErrArg},
		{"a", math.MaxInt, "", api.ErrRange}, {"ab", 1 << 62, "", api.ErrRange}, {"abcd", 1 << 62, "", api.ErrRange}, {"abcd", 1<<62 + 1, "", api.ErrRange}, {long(api.MaxString), 1 << 52, "", api.ErrRange},
	} {
		if s, e := str.Repeat(c.s, c.n); s != c.want || e != c.e {
			t.Error(i, len(s), int(e))
		}
	}
}

// P2.2

func TestAt(t *testing.T) {
	for i, c := range []struct {
		s    string
		i    int
		want string
		is   bool
	}{
		{"abc", 0, "a", true}, {"abc", 2, "c", true}, {"\x00\xff", 0, "\x00", true}, {"\x00\xff", 1, "\xff", true}, {"é", 0, "\xc3", true}, {"é", 1, "\xa9", true}, {long(5000), 4999, "a", true},
		{"abc", 3, "", false}, {"abc", -1, "", false}, {"", 0, "", false}, {"", -1, "", false}, {"abc", math.MaxInt, "", false}, {"abc", math.MinInt, "", false},
	} {
		if s, is := str.At(c.s, c.i); s != c.want || is != c.is {
			t.Error(i, s, is)
		}
	}
	for i := range 256 {
		if s, is := str.At(every(), i); s != string([]byte{byte(i)}) || !is {
			t.Error(i, s, is)
		}
	}
}

func TestPart(t *testing.T) {
	for i, c := range []struct {
		s        string
		from, to float64
		want     string
	}{
		{"abcde", 1, 3, "bc"}, {"abcde", -2, nan, ""}, {"abcde", -2, 99, "de"}, {"abc", 2, 1, ""},
		{"abc", nan, nan, ""}, {"abc", nan, 2, "ab"}, {"abc", 0, 3, "abc"}, {"abc", minus, 3, "abc"}, {"abc", 1, 1, ""}, {"abc", 3, 9, ""}, {"abc", 2, 3, "c"}, {"abc", 0, 0, ""}, {"abc", 0, minus, ""},
		{"abc", -1, 3, "c"}, {"abc", -3, -1, "ab"}, {"abc", -4, -2, "a"}, {"abc", -1, -3, ""}, {"abc", 0, -3, ""}, {"abc", 0, -4, ""},
		{"abc", 1.9, 2.9, "b"}, {"abc", 0.5, 1.5, "a"}, {"abc", -1.9, 9, "c"}, {"abc", -0.5, 9, ""}, {"abc", 0, -0.5, "abc"}, {"abc", -math.SmallestNonzeroFloat64, 9, ""}, {"abc", -2.5, -1.5, "b"}, {"abc", -3.5, 9, "abc"},
		{"abc", 0, inf, "abc"}, {"abc", -inf, inf, "abc"}, {"abc", inf, inf, ""}, {"abc", inf, 0, ""}, {"abc", 0, -inf, ""}, {"abc", -inf, -inf, ""},
		{"abc", 0, 1e300, "abc"}, {"abc", -1e300, 1e300, "abc"}, {"abc", 1, 1 << 62, "bc"}, {"abc", 1, 1 << 63, "bc"}, {"abc", -(1 << 63), 1, "a"}, {"abc", -(1 << 62), 1, "a"}, {"abc", 1 << 32, 1<<32 + 2, ""}, {"abc", 0, 1<<32 + 1, "abc"},
		{"", 0, 0, ""}, {"", -1, 1, ""}, {"", nan, inf, ""}, {"\x00\xff\x80", 1, 2, "\xff"}, {"é", 1, 2, "\xa9"},
		{long(api.MaxString) + "bc", api.MaxString, inf, "bc"}, {long(api.MaxString) + "bc", -2, -1, "b"}, {long(api.MaxString) + "bc", 0, -1, long(api.MaxString) + "b"},
	} {
		if s := str.Part(c.s, c.from, c.to); s != c.want {
			t.Error(i, c.s, c.from, c.to, s)
		}
	}
}

// place goes the words' way, by whole numbers.
func place(s string, x float64) int {
	switch {
	case x != x:
		return 0
	case x < 0 && x < -100:
		return 0
	case x < 0:
		return max(len(s)+int(x), 0)
	case x > 100:
		return len(s)
	}
	return min(int(x), len(s))
}

func TestPartAtEachPlace(t *testing.T) {
	l := []float64{nan, minus, inf, -inf, 1e18, -1e18}
	for x := -8.0; x <= 8; x += 0.25 {
		l = append(l, x)
	}
	for _, s := range []string{"", "a", "ab", "abcde", "\xff\x00\x80b"} {
		for _, from := range l {
			for _, to := range l {
				want := ""
				if i, j := place(s, from), place(s, to); i < j {
					want = s[i:j]
				}
				if got := str.Part(s, from, to); got != want {
					t.Error(s, from, to, got)
				}
			}
		}
	}
}

func TestFind(t *testing.T) {
	for i, c := range []struct {
		s, t     string
		from, at int
	}{
		{"banana", "an", 2, 3}, {"abc", "", 9, 3}, {"abc", "d", -1, -1},
		{"banana", "an", 0, 1}, {"banana", "an", 1, 1}, {"banana", "an", 3, 3}, {"banana", "an", 4, -1}, {"banana", "ana", 2, 3}, {"banana", "banana", 0, 0}, {"banana", "banana", 1, -1}, {"banana", "bananas", 0, -1},
		{"abc", "", 0, 0}, {"abc", "", 2, 2}, {"abc", "", 3, 3}, {"abc", "", -5, 0}, {"", "", 0, 0}, {"", "", 7, 0}, {"", "a", 0, -1},
		{"abc", "a", -1, 0}, {"abc", "a", math.MinInt, 0}, {"abc", "c", math.MaxInt, -1}, {"abc", "", math.MaxInt, 3}, {"abc", "c", 3, -1}, {"abc", "c", 2, 2},
		{"\x00\xff\x80", "\xff\x80", 0, 1}, {"éa", "\xa9", 0, 1}, {"Abc", "a", 0, -1},
	} {
		if at := str.Find(c.s, c.t, c.from); at != c.at {
			t.Error(i, at)
		}
	}
}

// P2.3

func TestLess(t *testing.T) {
	for i, c := range []struct {
		a, b string
		less bool
	}{
		{"a", "b", true}, {"b", "a", false}, {"a", "a", false}, {"", "", false}, {"", "a", true}, {"a", "", false}, {"", "\x00", true},
		{"a", "ab", true}, {"ab", "a", false}, {"ab", "b", true}, {"b", "ab", false}, {"Z", "a", true}, {"10", "9", true}, {"\x7f", "\x80", true}, {"z", "\xff", true}, {"\xff", "z", false}, {"a\x00", "a", false}, {"é", "z", false},
	} {
		if less := str.Less(c.a, c.b); less != c.less {
			t.Error(i, less)
		}
	}
}

func lessByHand(a, b string) bool {
	for i := range min(len(a), len(b)) {
		if a[i] != b[i] {
			return a[i] < b[i]
		}
	}
	return len(a) < len(b)
}

func TestLessIsARow(t *testing.T) {
	l := all("\x00a\x80\xff", 3)
	for _, a := range l {
		for _, b := range l {
			less, more := str.Less(a, b), str.Less(b, a)
			if less != lessByHand(a, b) {
				t.Errorf("%q %q: %v", a, b, less)
			}
			if a != b && less == more || a == b && (less || more) {
				t.Errorf("%q %q: %v %v", a, b, less, more)
			}
		}
	}
}

func TestTrim(t *testing.T) {
	for i, c := range []struct{ s, want string }{
		{"", ""}, {"a", "a"}, {" a ", "a"}, {"\t\n\r a b\t\n\r ", "a b"}, {" ", ""}, {"\t\n\r ", ""}, {"a ", "a"}, {" a", "a"}, {"a\t\tb", "a\t\tb"},
		{"\va\v", "\va\v"}, {"\fa\f", "\fa\f"}, {"\x00a\x00", "\x00a\x00"}, {"\x85a\x85", "\x85a\x85"}, {"\xa0a\xa0", "\xa0a\xa0"}, {"\u00a0a\u2003", "\u00a0a\u2003"}, {"\ufeffa", "\ufeffa"}, {" \xff ", "\xff"},
	} {
		if s := str.Trim(c.s); s != c.want {
			t.Errorf("%d %q", i, s)
		}
	}
	for i := range 256 {
		c := string([]byte{byte(i)})
		want := c + "a" + c
		if i == 9 || i == 10 || i == 13 || i == 32 {
			want = "a"
		}
		if s := str.Trim(c + "a" + c); s != want {
			t.Errorf("%d %q", i, s)
		}
	}
}

// P2.5

func TestWhatFindTells(t *testing.T) {
	for _, s := range all("ab", 6) {
		for _, p := range all("ab", 3) {
			for from := -1; from <= len(s)+1; from++ {
				start, want := min(max(from, 0), len(s)), -1
				for i := start; i <= len(s)-len(p) && want < 0; i++ {
					if s[i:i+len(p)] == p {
						want = i
					}
				}
				if at := str.Find(s, p, from); at != want {
					t.Errorf("%q %q %d: %d", s, p, from, at)
				}
			}
		}
	}
}

func TestPartsJoined(t *testing.T) {
	for _, s := range append(all("a\xff", 4), every(), long(api.MaxString)) {
		end := float64(len(s))
		for _, at := range []float64{0, 1, 2, 3, 4, 5, 255, 256, 4095, 4096, 4097, -1, -2, -5, 1.5, -1.5, -0.5, 0.5, minus, nan, inf, -inf} {
			whole, e := str.Join(str.Part(s, 0, at), str.Part(s, at, end))
			if whole != s || e != api.OK {
				t.Error(len(s), at, len(whole), int(e))
			}
		}
	}
}

func TestTrimOfTrim(t *testing.T) {
	for _, s := range all(" \ta\n", 4) {
		once := str.Trim(s)
		if twice := str.Trim(once); twice != once {
			t.Errorf("%q: %q, %q", s, once, twice)
		}
	}
}

// What is answered is new memory.

func within(part, whole string) bool {
	p, w := uintptr(unsafe.Pointer(unsafe.StringData(part))), uintptr(unsafe.Pointer(unsafe.StringData(whole)))
	return p >= w && p < w+uintptr(len(whole))
}

func TestAnswersAreNewMemory(t *testing.T) {
	s := strings.Clone("some text, long enough for a place of its own")
	joined, _ := str.Join(s, "")
	last, _ := str.Join("", s)
	once, _ := str.Repeat(s, 1)
	one, _ := str.At(s, 3)
	plain, _, _ := str.Plain(s)
	for i, part := range []string{joined, last, once, one, str.Part(s, 0, 99), str.Part(s, 5, 9), str.Trim(s), plain} {
		if part == "" || within(part, s) {
			t.Error(i, part)
		}
	}
}
