package num

import (
	"math"
	"strconv"
	"strings"

	"bailiff/api"
)

// blanks are what Read takes off at both ends.
const blanks = "\t\n\r "

// Text is a number in tens; nothing, if it is none of ours.
func Text(x float64) string {
	switch {
	case none(x):
		return "NaN"
	case !May(x):
		return ""
	}
	return strconv.FormatInt(int64(x), 10)
}

// Read is what a text is worth as a number.
func Read(s string) (float64, api.Errno) {
	s = strings.Trim(s, blanks)
	if s == "" {
		return 0, api.OK
	}
	below := s[0] == '-'
	if below || s[0] == '+' {
		s = s[1:]
	}
	x := digits(s)
	if below {
		x = -x
	}
	return tell(x)
}

// digits is the worth of digits, no number of anything else. It may be rounded beyond MaxSafe, and never comes back from there, so that all of a text is looked at before it is refused.
func digits(s string) float64 {
	if s == "" {
		return math.NaN()
	}
	x := 0.0
	for i := 0; i < len(s); i++ {
		if s[i] < '0' || s[i] > '9' {
			return math.NaN()
		}
		x = x*10 + float64(s[i]-'0')
	}
	return x
}
