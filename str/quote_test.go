package str_test

import (
	"fmt"
	"strings"
	"testing"

	"bailiff/api"
	"bailiff/str"
)

// P2.4

func TestQuote(t *testing.T) {
	for i, c := range []struct{ s, want string }{
		{"a\"\n\xff", `"a\"\n\xff"`},
		{"", `""`}, {"abc", `"abc"`}, {`\`, `"\\"`}, {`"`, `"\""`}, {"'", `"'"`}, {"\t\n\r", `"\t\n\r"`}, {"\x00\x1f\x7f\x80", `"\x00\x1f\x7f\x80"`}, {" ~", `" ~"`}, {"é", `"\xc3\xa9"`}, {"\v\f\b\a", `"\x0b\x0c\x08\x07"`}, {`\n`, `"\\n"`}, {"/", `"/"`},
	} {
		if s := str.Quote(c.s); s != c.want {
			t.Error(i, s)
		}
	}
}

func TestQuoteOfEachByte(t *testing.T) {
	for i := range 256 {
		var want string
		switch {
		case i == 34:
			want = `\"`
		case i == 92:
			want = `\\`
		case i == 10:
			want = `\n`
		case i == 9:
			want = `\t`
		case i == 13:
			want = `\r`
		case i >= 32 && i <= 126:
			want = string([]byte{byte(i)})
		default:
			want = fmt.Sprintf(`\x%02x`, i)
		}
		if s := str.Quote(string([]byte{byte(i)})); s != `"`+want+`"` {
			t.Error(i, s)
		}
	}
}

func TestPlain(t *testing.T) {
	for i, c := range []struct {
		s, want string
		at      int
		e       api.Errno
	}{
		{`\x41b`, "Ab", 0, api.OK}, {`a\q`, "", 1, api.ErrSyntax}, {`\x4`, "", 0, api.ErrSyntax},
		{"", "", 0, api.OK}, {"abc", "abc", 0, api.OK}, {`\\\"\'\n\t\r`, "\\\"'\n\t\r", 0, api.OK}, {`\x00\xff\x7f`, "\x00\xff\x7f", 0, api.OK}, {`\x0a\xa0`, "\n\xa0", 0, api.OK}, {`\x412`, "A2", 0, api.OK}, {`\\x41`, `\x41`, 0, api.OK}, {`\\\\`, `\\`, 0, api.OK}, {`\\n`, `\n`, 0, api.OK},
		{`"'`, `"'`, 0, api.OK}, {"\n\r\t", "\n\r\t", 0, api.OK}, {"\x00\xff", "\x00\xff", 0, api.OK}, {`ab"c`, `ab"c`, 0, api.OK},
		{`\`, "", 0, api.ErrSyntax}, {`a\`, "", 1, api.ErrSyntax}, {`\\\`, "", 2, api.ErrSyntax}, {`\x`, "", 0, api.ErrSyntax}, {`\x41\x4`, "", 4, api.ErrSyntax}, {`\x4g`, "", 0, api.ErrSyntax}, {`\xg4`, "", 0, api.ErrSyntax}, {`\x4 `, "", 0, api.ErrSyntax}, {`\x4\n`, "", 0, api.ErrSyntax},
		{`\xFF`, "", 0, api.ErrSyntax}, {`\xfF`, "", 0, api.ErrSyntax}, {`\xA0`, "", 0, api.ErrSyntax}, {`\X41`, "", 0, api.ErrSyntax}, {`\N`, "", 0, api.ErrSyntax}, {`\0`, "", 0, api.ErrSyntax}, {`\b`, "", 0, api.ErrSyntax}, {`\v`, "", 0, api.ErrSyntax}, {`\u0041`, "", 0, api.ErrSyntax}, {"\\\n", "", 0, api.ErrSyntax}, {`\x:0`, "", 0, api.ErrSyntax}, {`\x/0`, "", 0, api.ErrSyntax}, {"\\x0`", "", 0, api.ErrSyntax},
		{`ab\ncd\qe\`, "", 6, api.ErrSyntax}, {`\q\z`, "", 0, api.ErrSyntax},
	} {
		if s, at, e := str.Plain(c.s); s != c.want || at != c.at || e != c.e {
			t.Errorf("%d %q %d %d", i, s, at, int(e))
		}
	}
}

func TestPlainOfEachEscape(t *testing.T) {
	for i := range 256 {
		c := string([]byte{byte(i)})
		want, is := map[int]string{'\\': "\\", '"': "\"", '\'': "'", 'n': "\n", 't': "\t", 'r': "\r"}[i]
		s, at, e := str.Plain("ab\\" + c + "00")
		if is && (s != "ab"+want+"00" || at != 0 || e != api.OK) {
			t.Error(i, s, at, int(e))
		}
		if i == 'x' && (s != "ab\x00" || at != 0 || e != api.OK) {
			t.Error(i, s, at, int(e))
		}
		if !is && i != 'x' && (s != "" || at != 2 || e != api.ErrSyntax) {
			t.Error(i, s, at, int(e))
		}
	}
}

func TestPlainOfEachTwoSixteens(t *testing.T) {
	const digits = "0123456789abcdef"
	for i := range 256 {
		for j := range 256 {
			high, low := strings.IndexByte(digits, byte(i)), strings.IndexByte(digits, byte(j))
			s, at, e := str.Plain("a\\x" + string([]byte{byte(i), byte(j)}))
			if high >= 0 && low >= 0 {
				if s != string([]byte{'a', byte(high*16 + low)}) || at != 0 || e != api.OK {
					t.Error(i, j, s, at, int(e))
				}
			} else if s != "" || at != 1 || e != api.ErrSyntax {
				t.Error(i, j, s, at, int(e))
			}
		}
	}
}

func TestPlainAtItsLimits(t *testing.T) {
	for i, c := range []struct {
		s  string
		n  int
		at int
		e  api.Errno
	}{
		{long(api.MaxString), api.MaxString, 0, api.OK},
		{long(api.MaxString + 1), 0, 0, api.ErrRange},
		{strings.Repeat(`\x41`, api.MaxString), api.MaxString, 0, api.OK},
		{strings.Repeat(`\x41`, api.MaxString+1), 0, 0, api.ErrRange},
		{long(api.MaxString-1) + `\n`, api.MaxString, 0, api.OK},
		{long(api.MaxString) + `\n`, 0, 0, api.ErrRange},
		{long(api.MaxString+1) + `\q`, 0, api.MaxString + 1, api.ErrSyntax},
		{long(api.MaxText), 0, 0, api.ErrRange},
		{long(api.MaxText-1) + `\`, 0, api.MaxText - 1, api.ErrSyntax},
		{`\` + long(api.MaxText-1), 0, 0, api.ErrSyntax},
		{long(api.MaxText + 1), 0, 0, api.ErrBig},
		{`a\q` + long(api.MaxText), 0, 0, api.ErrBig},
	} {
		if s, at, e := str.Plain(c.s); len(s) != c.n || at != c.at || e != c.e {
			t.Error(i, len(s), at, int(e))
		}
	}
}

// P2.5

func TestPlainOfQuote(t *testing.T) {
	l := append(all("\"\\\nx4\x00", 4), every(), long(api.MaxString), strings.Repeat("\xff", api.MaxString), strings.Repeat(`"`, api.MaxString))
	for _, s := range l {
		q := str.Quote(s)
		if p, at, e := str.Plain(q[1 : len(q)-1]); p != s || at != 0 || e != api.OK {
			t.Errorf("%q %d %d", q, at, int(e))
		}
	}
	q := str.Quote(long(api.MaxString + 1))
	if p, at, e := str.Plain(q[1 : len(q)-1]); p != "" || at != 0 || e != api.ErrRange {
		t.Error(len(p), at, int(e))
	}
	q = str.Quote(strings.Repeat("\xff", api.MaxText/4+1))
	if p, at, e := str.Plain(q[1 : len(q)-1]); p != "" || at != 0 || e != api.ErrBig {
		t.Error(len(p), at, int(e))
	}
}

// A quote's bytes stand between 32 and 126, and none of them ends it ahead of its end.
func TestQuoteStandsInAText(t *testing.T) {
	q := str.Quote(every())
	for i := range len(q) {
		if q[i] < 32 || q[i] > 126 {
			t.Error(i, q[i])
		}
	}
	if strings.Count(q, `"`)-strings.Count(q, `\"`) != 2 {
		t.Error(q)
	}
}
