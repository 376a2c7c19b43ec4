package lex_test

import (
	"math"
	"reflect"
	"slices"
	"strings"
	"testing"

	"bailiff/api"
	"bailiff/lex"
)

// written holds what Text tells of tokens against a text, or an error.
func written(t *testing.T, want string, wantE api.Errno, l ...api.Token) {
	t.Helper()
	kept := slices.Clone(l)
	s, e := lex.Text(l)
	if s != want || e != wantE {
		t.Errorf("%.200v: %.60q %d", l, s, int(e))
	}
	for i := range l {
		if l[i] != kept[i] && !math.IsNaN(kept[i].Num) {
			t.Errorf("%.200v changed", l)
		}
	}
}

func times(x api.Token, n int) []api.Token {
	l := make([]api.Token, n, n+1)
	for i := range l {
		l[i] = x
	}
	return append(l, end(0))
}

// P3.3

func TestText(t *testing.T) {
	written(t, "let x", api.OK, worded(0, "let"), called(0, "x"), end(0))
	written(t, "", api.ErrSyntax)
	written(t, "", api.OK, end(0))
	written(t, "", api.OK, end(-5))
	written(t, "a", api.OK, called(9, "a"), end(-1))
	written(t, `a >>> = 9007199254740991 - 0 "a\"'\n\xff" ""`, api.OK, called(0, "a"), signed(0, ">>>"), signed(0, "="), numbered(0, api.MaxSafe), signed(0, "-"), numbered(0, 0), stringed(0, "a\"'\n\xff"), stringed(0, ""), end(0))
	written(t, "/ / * /", api.OK, signed(1, "/"), signed(1, "/"), signed(1, "*"), signed(0, "/"), end(math.MaxInt))
	for _, s := range strings.Fields(signs) {
		written(t, s, api.OK, signed(0, s), end(0))
	}
	for _, s := range strings.Fields(reserved) {
		written(t, s, api.OK, worded(0, s), end(0))
	}
	for _, s := range []string{"of", "get", "undefined", "$", "_9", "Z", long(api.MaxString)} {
		written(t, s, api.OK, called(0, s), end(0))
	}
	// A minus nought is equal to 0, and so the same as it.
	minus := math.Copysign(0, -1)
	written(t, "a", api.OK, api.Token{Kind: api.TokName, Text: "a", Num: minus}, api.Token{Num: minus})
}

func TestTextOfWhatMayNotBe(t *testing.T) {
	nan, inf, minus := math.NaN(), math.Inf(1), math.Copysign(0, -1)
	for _, x := range []api.Token{
		end(0), {Kind: 6}, {Kind: 255, Text: "a"}, {Kind: 6, Text: ";"},
		called(0, ""), called(0, "let"), called(0, "9a"), called(0, "a b"), called(0, "a "), called(0, " a"), called(0, "a\xff"), called(0, "é"), called(0, "+"), called(0, "a//"), called(0, "'a'"), called(0, "1"), called(0, long(api.MaxString+1)), called(0, long(1<<20)),
		worded(0, ""), worded(0, "a"), worded(0, "of"), worded(0, "Let"), worded(0, "let x"), worded(0, ";"),
		signed(0, ""), signed(0, "=>"), signed(0, "//"), signed(0, "/*"), signed(0, "/**/"), signed(0, "++"), signed(0, ">>="), signed(0, "= "), signed(0, "a"), signed(0, "#"), signed(0, "&="), signed(0, `"a"`), signed(0, "1"), signed(0, "in"),
		stringed(0, long(api.MaxString+1)),
		numbered(0, -1), numbered(0, minus), numbered(0, 0.5), numbered(0, nan), numbered(0, inf), numbered(0, -inf), numbered(0, api.MaxSafe+1), numbered(0, 5e-324),
		{Kind: api.TokNumber, Text: "1", Num: 1}, {Kind: api.TokNumber, Text: "1"}, {Kind: api.TokName, Text: "a", Num: 1}, {Kind: api.TokWord, Text: "let", Num: nan}, {Kind: api.TokSign, Text: ";", Num: -1}, {Kind: api.TokString, Text: "a", Num: 1}, {Kind: api.TokString, Num: nan},
	} {
		written(t, "", api.ErrSyntax, x, end(0))
		written(t, "", api.ErrSyntax, called(0, "a"), signed(0, ";"), x, signed(0, ";"), end(0))
		if x != end(0) {
			written(t, "", api.ErrSyntax, x)
			written(t, "", api.ErrSyntax, called(0, "a"), x)
		}
	}
	for _, x := range []api.Token{{Text: "a"}, {Num: 1}, {Num: nan}, {Text: " "}, {Num: -1}} {
		written(t, "", api.ErrSyntax, x)
		written(t, "", api.ErrSyntax, called(0, "a"), x)
		written(t, "", api.ErrSyntax, x, end(0))
	}
	written(t, "", api.ErrSyntax, called(0, "a"))
	written(t, "", api.ErrSyntax, end(0), called(0, "a"))
	written(t, "", api.ErrSyntax, end(0), end(0))
	written(t, "", api.ErrSyntax, called(0, "a"), end(0), end(0))
}

func TestTextAtTheLimits(t *testing.T) {
	written(t, strings.TrimSuffix(strings.Repeat("a ", api.MaxTokens), " "), api.OK, times(called(0, "a"), api.MaxTokens)...)
	written(t, "", api.ErrMany, times(called(0, "a"), api.MaxTokens+1)...)
	written(t, "", api.ErrMany, make([]api.Token, api.MaxTokens+2)...)
	written(t, "", api.ErrMany, times(api.Token{Kind: 9}, 1<<20)...)
	// Sixteen names with their blanks are as long as a text may be, and one byte is left over.
	full := times(called(0, long(api.MaxString-1)), 16)
	full[15].Text = long(api.MaxString)
	want := strings.Repeat(long(api.MaxString-1)+" ", 15) + long(api.MaxString)
	if len(want) != api.MaxText {
		t.Fatal(len(want))
	}
	written(t, want, api.OK, full...)
	over := slices.Clone(full)
	over[0].Text = long(api.MaxString)
	written(t, "", api.ErrBig, over...)
	written(t, "", api.ErrBig, slices.Insert(slices.Clone(full), 16, signed(0, ";"))...)
	written(t, "", api.ErrBig, times(stringed(0, strings.Repeat("\xff", api.MaxString)), 4)...)
	written(t, "", api.ErrBig, times(stringed(0, long(api.MaxString)), api.MaxTokens)...)
	written(t, "", api.OK, end(0))
	// A token that may not be comes ahead of the text's length, wherever it stands.
	over[15].Text = ""
	written(t, "", api.ErrSyntax, over...)
	written(t, "", api.ErrSyntax, times(stringed(0, long(api.MaxString)), api.MaxTokens)[:api.MaxTokens]...)
}

// P3.4

func TestTextIsNewMemory(t *testing.T) {
	name := strings.Clone("someone")
	if s, e := lex.Text([]api.Token{called(0, name), end(0)}); s != name || e != api.OK || within(s, name) {
		t.Error(s, int(e))
	}
}

// P3.5

func TestTokensOfTheirText(t *testing.T) {
	long := strings.Repeat("a + 'b\xff' >>> let 12 // c\n;", 1000)
	for _, s := range append(corpus(), long) {
		l, _, e := lex.Tokens(s)
		if e != api.OK {
			continue
		}
		text, e := lex.Text(l)
		if e != api.OK {
			t.Fatalf("%.60q: %d", s, int(e))
		}
		again, at, e := lex.Tokens(text)
		for i := range again {
			again[i].At = l[i].At
		}
		if !reflect.DeepEqual(again, l) || at != 0 || e != api.OK {
			t.Fatalf("%.60q: %.60q %d %d", s, text, at, int(e))
		}
	}
}

func TestPlacesRise(t *testing.T) {
	for _, s := range corpus() {
		l, at, e := lex.Tokens(s)
		if e != api.OK {
			if at < 0 || at >= len(s) {
				t.Fatalf("%q: %d", s, at)
			}
			continue
		}
		last := -1
		for _, x := range l {
			if x.At <= last || x.At > len(s) {
				t.Fatalf("%q: %v", s, l)
			}
			last = x.At
		}
		if last != len(s) {
			t.Fatalf("%q: %v", s, l)
		}
	}
}

// What stands behind a byte at which no token begins is not looked at.
func TestWhatIsRefusedStaysRefused(t *testing.T) {
	for _, s := range corpus() {
		_, at, e := lex.Tokens(s)
		if e != api.ErrSyntax || !strings.Contains("#\\\xff", s[at:at+1]) || strings.ContainsAny(s[:at], `"'`) {
			continue
		}
		for _, cut := range []string{s[:at+1], s[:at+1] + strings.Repeat(" ", len(s)-at-1), s[:at+1] + strings.Repeat("\n", len(s)-at-1)} {
			refused(t, cut, at, api.ErrSyntax)
		}
	}
}
