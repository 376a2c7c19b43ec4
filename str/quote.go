package str

import (
	"strings"

	"bailiff/api"
)

// Quote writes a string as the language reads it.
func Quote(s string) string {
	var out strings.Builder
	out.Grow(len(s) + 2)
	out.WriteByte('"')
	for i := 0; i < len(s); i++ {
		write(&out, s[i])
	}
	out.WriteByte('"')
	return out.String()
}

func write(out *strings.Builder, c byte) {
	switch {
	case c == '"' || c == '\\':
		out.WriteByte('\\')
		out.WriteByte(c)
	case c == '\n':
		out.WriteString(`\n`)
	case c == '\t':
		out.WriteString(`\t`)
	case c == '\r':
		out.WriteString(`\r`)
	case c < 32 || c > 126:
		out.WriteString(`\x`)
		out.WriteByte(digit(c >> 4))
		out.WriteByte(digit(c & 15))
	default:
		out.WriteByte(c)
	}
}

// digit writes a number below 16.
func digit(n byte) byte {
	if n < 10 {
		return '0' + n
	}
	return 'a' + n - 10
}

// Plain reads what stands between two quotes. It reads on where the string has become too long, since an escape that is none comes first, however far behind.
func Plain(s string) (string, int, api.Errno) {
	if len(s) > api.MaxText {
		return "", 0, api.ErrBig
	}
	var out strings.Builder
	for i := 0; i < len(s); {
		c, wide := first(s[i:])
		if wide == 0 {
			return "", i, api.ErrSyntax
		}
		out.WriteByte(c)
		i += wide
	}
	if out.Len() > api.MaxString {
		return "", 0, api.ErrRange
	}
	return out.String(), 0, api.OK
}

// first is the byte that s begins with, and how many bytes it is written with: 0, where a backslash begins no escape.
func first(s string) (c byte, wide int) {
	switch {
	case s[0] != '\\':
		return s[0], 1
	case len(s) < 2:
		return 0, 0
	}
	switch s[1] {
	case '\\', '"', '\'':
		return s[1], 2
	case 'n':
		return '\n', 2
	case 't':
		return '\t', 2
	case 'r':
		return '\r', 2
	case 'x':
		return sixteens(s)
	}
	return 0, 0
}

// sixteens reads the escape of two sixteens that s begins with, as first does.
func sixteens(s string) (c byte, wide int) {
	if len(s) < 4 {
		return 0, 0
	}
	high, low := worth(s[2]), worth(s[3])
	if high < 0 || low < 0 {
		return 0, 0
	}
	return byte(high<<4 | low), 4
}

// worth is what a digit of sixteens is worth; -1: it is none.
func worth(c byte) int {
	switch {
	case '0' <= c && c <= '9':
		return int(c - '0')
	case 'a' <= c && c <= 'f':
		return int(c-'a') + 10
	}
	return -1
}
