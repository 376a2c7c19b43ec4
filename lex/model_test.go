package lex_test

import (
	"regexp"
	"slices"
	"strconv"
	"strings"

	"bailiff/api"
)

// The model reads by patterns what the package reads byte by byte.

const reserved = "break case catch class const continue debugger default delete do else enum export extends false finally for function if import in instanceof let new null return super switch this throw true try typeof var void while with yield"

const signs = "{ } ( ) [ ] . ; , ? : < > <= >= == != === !== + - * / % & | ^ ! ~ && || = += -= *= /= %= << >> >>>"

var (
	gap     = regexp.MustCompile(`^(?:[\t\n\r ]|//[^\n]*|/\*(?s:.*?)\*/)*`)
	word    = regexp.MustCompile(`^[A-Za-z_$][A-Za-z0-9_$]*`)
	number  = regexp.MustCompile(`^[0-9]+`)
	whole   = regexp.MustCompile(`^(?:0|[1-9][0-9]*)$`)
	literal = regexp.MustCompile(`^(?:"(?:[^"\\\n\r]|\\[^\n\r])*"|'(?:[^'\\\n\r]|\\[^\n\r])*')`)
	escape  = regexp.MustCompile(`\\(?s:[\\"'ntr]|x[0-9a-f][0-9a-f]|.|$)`)
	mark    = marks()
)

// marks is the pattern of the signs, the longest one first.
func marks() *regexp.Regexp {
	l := strings.Fields(signs)
	slices.SortStableFunc(l, func(a, b string) int { return len(b) - len(a) })
	for i, s := range l {
		l[i] = regexp.QuoteMeta(s)
	}
	return regexp.MustCompile("^(?:" + strings.Join(l, "|") + ")")
}

// model is what Tokens is to tell.
func model(s string) ([]api.Token, int, api.Errno) {
	var l []api.Token
	for at := 0; ; {
		at += len(gap.FindString(s[at:]))
		if at == len(s) {
			return append(l, api.Token{Kind: api.TokEnd, At: at}), 0, api.OK
		}
		t, wide, fault := token(s[at:])
		switch {
		case wide == 0:
			return nil, at + fault, api.ErrSyntax
		case len(l) == api.MaxTokens:
			return nil, at, api.ErrMany
		}
		t.At = at
		l = append(l, t)
		at += wide
	}
}

func token(s string) (api.Token, int, int) {
	if m := word.FindString(s); m != "" {
		return named(m)
	}
	if m := number.FindString(s); m != "" {
		n, err := strconv.ParseInt(m, 10, 64)
		if err != nil || n > api.MaxSafe || !whole.MatchString(m) || word.MatchString(s[len(m):]) {
			return api.Token{}, 0, 0
		}
		return api.Token{Kind: api.TokNumber, Num: float64(n)}, len(m), 0
	}
	if m := literal.FindString(s); m != "" {
		return quoted(m)
	}
	if m := mark.FindString(s); m != "" && !strings.HasPrefix(s, "/*") {
		return api.Token{Kind: api.TokSign, Text: m}, len(m), 0
	}
	return api.Token{}, 0, 0
}

func named(s string) (api.Token, int, int) {
	switch {
	case len(s) > api.MaxString:
		return api.Token{}, 0, 0
	case slices.Contains(strings.Fields(reserved), s):
		return api.Token{Kind: api.TokWord, Text: s}, len(s), 0
	}
	return api.Token{Kind: api.TokName, Text: s}, len(s), 0
}

func quoted(s string) (api.Token, int, int) {
	fault := 0
	inside := s[1 : len(s)-1]
	for _, m := range escape.FindAllStringIndex(inside, -1) {
		if _, is := escaped(inside[m[0]:m[1]]); !is && fault == 0 {
			fault = 1 + m[0]
		}
	}
	text := escape.ReplaceAllStringFunc(inside, func(e string) string {
		c, _ := escaped(e)
		return c
	})
	if fault > 0 || len(text) > api.MaxString {
		return api.Token{}, 0, fault
	}
	return api.Token{Kind: api.TokString, Text: text}, len(s), 0
}

// escaped is what an escape stands for, and whether it is one.
func escaped(e string) (string, bool) {
	switch e {
	case `\\`, `\"`, `\'`:
		return e[1:], true
	case `\n`:
		return "\n", true
	case `\t`:
		return "\t", true
	case `\r`:
		return "\r", true
	}
	if len(e) != 4 {
		return "", false
	}
	n, err := strconv.ParseUint(e[2:], 16, 8)
	return string([]byte{byte(n)}), err == nil
}

// all are the texts of at most so many of some pieces.
func all(most int, pieces ...string) []string {
	l := []string{""}
	from := 0
	for range most {
		to := len(l)
		for _, s := range l[from:to] {
			for _, p := range pieces {
				l = append(l, s+p)
			}
		}
		from = to
	}
	return l
}

// corpus are texts of many kinds: short ones, all there are, and pieces of scripts.
func corpus() []string {
	l := all(4, strings.Split("a0\"'\n\\/*=>#", "")...)
	l = append(l, all(5, strings.Split("/*\n\r\"a", "")...)...)
	l = append(l, all(5, strings.Split("<>=!&|+", "")...)...)
	l = append(l, all(4, strings.Split("x4f\\\"'ng", "")...)...)
	return append(l, all(3, "let ", "x", "=", "1", "0", "'a\\'", "\"\\x41\"", "// b\n", "/* c", "*/", "$_9", ">>>", ".", "\xff", "9007199254740991", "(", "instanceof")...)
}
