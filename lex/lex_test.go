package lex_test

import (
	"reflect"
	"strings"
	"testing"
	"unsafe"

	"bailiff/api"
	"bailiff/lex"
)

func long(n int) string { return strings.Repeat("a", n) }

// The kinds of tokens, as the tests write them.
func end(at int) api.Token { return api.Token{Kind: api.TokEnd, At: at} }

func called(at int, s string) api.Token { return api.Token{Kind: api.TokName, At: at, Text: s} }

func worded(at int, s string) api.Token { return api.Token{Kind: api.TokWord, At: at, Text: s} }

func signed(at int, s string) api.Token { return api.Token{Kind: api.TokSign, At: at, Text: s} }

func stringed(at int, s string) api.Token { return api.Token{Kind: api.TokString, At: at, Text: s} }

func numbered(at int, n float64) api.Token {
	return api.Token{Kind: api.TokNumber, At: at, Num: n}
}

// told holds what Tokens tells of s against tokens.
func told(t *testing.T, s string, want ...api.Token) {
	t.Helper()
	l, at, e := lex.Tokens(s)
	if !reflect.DeepEqual(l, want) || at != 0 || e != api.OK {
		t.Errorf("%.40q: %v %d %d", s, l, at, int(e))
	}
}

// refused holds what Tokens tells of s against an error and its place.
func refused(t *testing.T, s string, place int, want api.Errno) {
	t.Helper()
	l, at, e := lex.Tokens(s)
	if len(l) != 0 || at != place || e != want {
		t.Errorf("%.40q: %d tokens, %d %d", s, len(l), at, int(e))
	}
}

// P3.1

func TestTokensOfTheExamples(t *testing.T) {
	told(t, "let x=1;", worded(0, "let"), called(4, "x"), signed(5, "="), numbered(6, 1), signed(7, ";"), end(8))
	told(t, "a/*b*/ // c", called(0, "a"), end(11))
	told(t, "", end(0))
	told(t, "a>>>=b", called(0, "a"), signed(1, ">>>"), signed(4, "="), called(5, "b"), end(6))
	told(t, "a===b", called(0, "a"), signed(1, "==="), called(4, "b"), end(5))
	told(t, `'a\"b'`, stringed(0, `a"b`), end(6))
	told(t, `"\x41"`, stringed(0, "A"), end(6))
	refused(t, "01", 0, api.ErrSyntax)
	refused(t, "1a", 0, api.ErrSyntax)
	refused(t, "9007199254740992", 0, api.ErrSyntax)
	refused(t, `"a`, 0, api.ErrSyntax)
	refused(t, "/*", 0, api.ErrSyntax)
	refused(t, "a#", 1, api.ErrSyntax)
	refused(t, `"a\q"`, 2, api.ErrSyntax)
	refused(t, long(4097), 0, api.ErrSyntax)
	refused(t, strings.Repeat("a ", 16385), 32768, api.ErrMany)
	refused(t, "99999999999999999999", 0, api.ErrSyntax)
}

func TestTokensAgainstTheModel(t *testing.T) {
	for _, s := range corpus() {
		l, at, e := lex.Tokens(s)
		wantL, wantAt, wantE := model(s)
		if !reflect.DeepEqual(l, wantL) || at != wantAt || e != wantE {
			t.Fatalf("%q: %v %d %d, and not %v %d %d", s, l, at, int(e), wantL, wantAt, int(wantE))
		}
	}
}

// Each byte, alone, and in a name, a number, a string, a comment.
func TestTokensOfEachByte(t *testing.T) {
	for i := range 256 {
		c := string([]byte{byte(i)})
		for _, s := range []string{c, "ab" + c, "1" + c, "1" + c + "2", c + c, "a " + c + " b", "'" + c + "'", `"` + c + `"`, `"\` + c + `00"`, "//" + c + "a", "/*" + c + "*/a", "/" + c + "*/"} {
			l, at, e := lex.Tokens(s)
			wantL, wantAt, wantE := model(s)
			if !reflect.DeepEqual(l, wantL) || at != wantAt || e != wantE {
				t.Errorf("%q: %v %d %d, and not %v %d %d", s, l, at, int(e), wantL, wantAt, int(wantE))
			}
		}
	}
}

func TestBlanksAndComments(t *testing.T) {
	told(t, "\t\n\r ", end(4))
	told(t, " \t a\r\n b ", called(3, "a"), called(7, "b"), end(9))
	told(t, "//", end(2))
	told(t, "// a\rb", end(6))
	told(t, "// a\nb", called(5, "b"), end(6))
	told(t, "//\n//\n", end(6))
	told(t, "/**/a", called(4, "a"), end(5))
	told(t, "/***/a", called(5, "a"), end(6))
	told(t, "/*/*/a", called(5, "a"), end(6))
	told(t, "/*\n\"#\xff//*/a", called(10, "a"), end(11))
	told(t, "//\x00\xff#\"/*\na", called(9, "a"), end(10))
	told(t, "a//*\nb", called(0, "a"), called(5, "b"), end(6))
	told(t, "a/**/b/**//**/c", called(0, "a"), called(5, "b"), called(14, "c"), end(15))
	told(t, "a/ /b", called(0, "a"), signed(1, "/"), signed(3, "/"), called(4, "b"), end(5))
	told(t, "a/=/b", called(0, "a"), signed(1, "/="), signed(3, "/"), called(4, "b"), end(5))
	told(t, "*/", signed(0, "*"), signed(1, "/"), end(2))
	told(t, `"//" '/*'`, stringed(0, "//"), stringed(5, "/*"), end(9))
	for _, s := range []string{"/*", "/*/", "/* *", "/*\n/", "/*//\n", "/**", "/* a */"[:6]} {
		refused(t, s, 0, api.ErrSyntax)
		refused(t, "a ; "+s, 4, api.ErrSyntax)
		refused(t, "/**/ "+s, 5, api.ErrSyntax)
	}
	for _, s := range []string{"\v", "\f", "\x00", "\x7f", "\x80", "\xa0", "\u2028", "\ufeff", "é", "#", "@", "`", "\\", "\\u0041"} {
		refused(t, s, 0, api.ErrSyntax)
		refused(t, "a"+s+"b #", 1, api.ErrSyntax)
	}
}

func TestNames(t *testing.T) {
	for _, s := range []string{"a", "z", "A", "Z", "_", "$", "_0", "$9", "aZ9_$", "of", "get", "set", "undefined", "async", "await", "static", "eval", "arguments", "NaN", "Let", "lets", "le", "newtarget", "package", "constructor", "__proto__", long(api.MaxString)} {
		told(t, s, called(0, s), end(len(s)))
		told(t, " "+s+"+", called(1, s), signed(1+len(s), "+"), end(2+len(s)))
	}
	for _, s := range strings.Fields(reserved) {
		told(t, s, worded(0, s), end(len(s)))
		told(t, s+"9;", called(0, s+"9"), signed(len(s)+1, ";"), end(len(s)+2))
		told(t, "$"+s, called(0, "$"+s), end(len(s)+1))
		told(t, s+"."+s, worded(0, s), signed(len(s), "."), worded(len(s)+1, s), end(2*len(s)+1))
	}
	refused(t, "; "+long(api.MaxString+1), 2, api.ErrSyntax)
	refused(t, long(api.MaxString)+"9 #", 0, api.ErrSyntax)
	refused(t, long(api.MaxText), 0, api.ErrSyntax)
}

func TestNumbers(t *testing.T) {
	for _, c := range []struct {
		s string
		n float64
	}{{"0", 0}, {"7", 7}, {"10", 10}, {"4294967296", 1 << 32}, {"9007199254740990", api.MaxSafe - 1}, {"9007199254740991", api.MaxSafe}} {
		told(t, c.s, numbered(0, c.n), end(len(c.s)))
		told(t, c.s+";", numbered(0, c.n), signed(len(c.s), ";"), end(len(c.s)+1))
	}
	told(t, "1.5", numbered(0, 1), signed(1, "."), numbered(2, 5), end(3))
	told(t, "1.a", numbered(0, 1), signed(1, "."), called(2, "a"), end(3))
	told(t, "-0", signed(0, "-"), numbered(1, 0), end(2))
	told(t, "1'a'", numbered(0, 1), stringed(1, "a"), end(4))
	told(t, "0/**/1 2", numbered(0, 0), numbered(5, 1), numbered(7, 2), end(8))
	for _, s := range []string{"00", "00000", "007", "1_", "1$", "0x1", "1e3", "1n", "0a", "0$", "9a9", "9007199254740993", "10000000000000000", "18446744073709551617", "1" + strings.Repeat("0", 400), strings.Repeat("0", 5000), strings.Repeat("9", api.MaxText)} {
		refused(t, s, 0, api.ErrSyntax)
	}
	refused(t, "a+01", 2, api.ErrSyntax)
	refused(t, "1.00", 2, api.ErrSyntax)
	refused(t, "1\xff", 1, api.ErrSyntax)
	refused(t, "1#", 1, api.ErrSyntax)
}

func TestStrings(t *testing.T) {
	for _, c := range []struct{ s, text string }{
		{`""`, ""}, {`''`, ""}, {`"'"`, "'"}, {`'"'`, `"`}, {`"\""`, `"`}, {`'\''`, "'"}, {`"\\"`, `\`}, {`"\\\""`, `\"`}, {`'\n\t\r\x0a\xff'`, "\n\t\r\n\xff"}, {"\"\t\x00\x7f\xff é\"", "\t\x00\x7f\xff é"}, {`"//"`, "//"},
		{`"` + long(api.MaxString) + `"`, long(api.MaxString)}, {"'" + strings.Repeat(`\x61`, api.MaxString) + "'", long(api.MaxString)},
	} {
		told(t, c.s, stringed(0, c.text), end(len(c.s)))
		told(t, c.s+c.s, stringed(0, c.text), stringed(len(c.s), c.text), end(2*len(c.s)))
	}
	for _, s := range []string{`"`, `'`, `"'`, `"\"`, `"\\\"`, `"a\`, "\"a\nb\"", "\"a\rb\"", "\"\n", "'\r'", "\"a\\\nb\"", "\"a\\\rb\"", "\"\\q\n\"", `"\q`, "'a\\\r\n'", `"` + long(api.MaxString+1) + `"`, `"` + strings.Repeat(`\x61`, api.MaxString) + `a"`, `"` + long(60000) + `"`, `"` + long(api.MaxText-2)} {
		refused(t, s, 0, api.ErrSyntax)
		refused(t, ";"+s, 1, api.ErrSyntax)
	}
	refused(t, `; "\n\x4"`, 5, api.ErrSyntax)
	refused(t, `'\X41'`, 1, api.ErrSyntax)
	refused(t, `'ab\xFF\q'`, 3, api.ErrSyntax)
	refused(t, "'\\\xff'", 1, api.ErrSyntax)
	refused(t, `"\u0041"`, 1, api.ErrSyntax)
	refused(t, `'`+long(api.MaxString+1)+`\q'`, api.MaxString+2, api.ErrSyntax)
}

func TestSigns(t *testing.T) {
	for _, s := range strings.Fields(signs) {
		told(t, s, signed(0, s), end(len(s)))
		told(t, "a"+s+" a", called(0, "a"), signed(1, s), called(2+len(s), "a"), end(3+len(s)))
	}
	told(t, "=>", signed(0, "="), signed(1, ">"), end(2))
	told(t, "**", signed(0, "*"), signed(1, "*"), end(2))
	told(t, "...", signed(0, "."), signed(1, "."), signed(2, "."), end(3))
	told(t, ">>=", signed(0, ">>"), signed(2, "="), end(3))
	told(t, "<<=", signed(0, "<<"), signed(2, "="), end(3))
	told(t, ">>>>", signed(0, ">>>"), signed(3, ">"), end(4))
	told(t, "<<<", signed(0, "<<"), signed(2, "<"), end(3))
	told(t, "====", signed(0, "==="), signed(3, "="), end(4))
	told(t, "!!==", signed(0, "!"), signed(1, "!=="), end(4))
	told(t, "&&&=", signed(0, "&&"), signed(2, "&"), signed(3, "="), end(4))
	told(t, "|||", signed(0, "||"), signed(2, "|"), end(3))
	told(t, "++--", signed(0, "+"), signed(1, "+"), signed(2, "-"), signed(3, "-"), end(4))
	told(t, "^=~=?=:=", signed(0, "^"), signed(1, "="), signed(2, "~"), signed(3, "="), signed(4, "?"), signed(5, "="), signed(6, ":"), signed(7, "="), end(8))
}

func TestTokensAtTheLimits(t *testing.T) {
	told(t, strings.Repeat(" ", api.MaxText), end(api.MaxText))
	told(t, strings.Repeat(" ", api.MaxText-1)+"a", called(api.MaxText-1, "a"), end(api.MaxText))
	for _, s := range []string{strings.Repeat(" ", api.MaxText+1), long(api.MaxText + 1), "#" + long(api.MaxText), strings.Repeat("a ", api.MaxText)} {
		refused(t, s, 0, api.ErrBig)
	}
	most := strings.Repeat(";", api.MaxTokens)
	l, at, e := lex.Tokens(most + " // a\n/* b */ ")
	if len(l) != api.MaxTokens+1 || l[api.MaxTokens] != end(len(most)+14) || at != 0 || e != api.OK {
		t.Error(len(l), at, int(e))
	}
	refused(t, most+" ;", api.MaxTokens+1, api.ErrMany)
	refused(t, most+";#", api.MaxTokens, api.ErrMany)
	refused(t, most+" 1 01", api.MaxTokens+1, api.ErrMany)
	// What is no token is none more than may be.
	refused(t, most+" #", api.MaxTokens+1, api.ErrSyntax)
	refused(t, most+"/*", api.MaxTokens, api.ErrSyntax)
	refused(t, most+`"a\q"`, api.MaxTokens+2, api.ErrSyntax)
	refused(t, "#"+most+";", 0, api.ErrSyntax)
}

// P3.2

func TestWord(t *testing.T) {
	for _, s := range strings.Fields(reserved) {
		for _, other := range []string{s + "s", " " + s, s + " ", strings.ToUpper(s), s + s, s[1:], s + "\x00"} {
			if lex.Word(other) {
				t.Error(other)
			}
		}
		if !lex.Word(s) || lex.Sign(s) {
			t.Error(s)
		}
	}
	for _, s := range []string{"", "a", "of", "get", "set", "undefined", "await", "async", "static", "d", "1", ";", reserved, long(1 << 20)} {
		if lex.Word(s) {
			t.Errorf("%.40q", s)
		}
	}
}

func TestSign(t *testing.T) {
	is := map[string]bool{}
	for _, s := range strings.Fields(signs) {
		is[s] = true
	}
	for _, s := range append(all(4, strings.Split("{}()[].;,?:<>=!+-*/%&|^~ a", "")...), "", signs, strings.Repeat("=", 1<<20)) {
		if lex.Sign(s) != is[s] {
			t.Errorf("%.40q", s)
		}
		delete(is, s)
	}
	for i := range 256 {
		c := string([]byte{byte(i)})
		if lex.Sign(c) != (strings.Contains(signs, c) && c != " ") || lex.Sign("="+c) != (c == "=") {
			t.Error(i)
		}
	}
	if len(is) > 0 {
		t.Error(is)
	}
}

// P3.4

func within(part, whole string) bool {
	p, w := uintptr(unsafe.Pointer(unsafe.StringData(part))), uintptr(unsafe.Pointer(unsafe.StringData(whole)))
	return p >= w && p < w+uintptr(len(whole))
}

func TestTokensAreNewMemory(t *testing.T) {
	s := strings.Clone("someone + 'something' instanceof Anything >>> 12")
	l, _, _ := lex.Tokens(s)
	for i, x := range l {
		if x.Text != "" && within(x.Text, s) {
			t.Error(i, x)
		}
	}
	want, _, _ := lex.Tokens(s)
	clear(l[:cap(l)])
	if again, _, _ := lex.Tokens(s); !reflect.DeepEqual(again, want) {
		t.Error(again)
	}
}
