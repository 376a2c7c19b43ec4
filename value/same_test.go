package value_test

import (
	"math"
	"strconv"
	"strings"
	"testing"

	"bailiff/api"
	"bailiff/value"
)

// P7.2

func TestExamplesOfSame(t *testing.T) {
	if !value.Same(number(nan), number(nan)) || value.Strict(number(nan), number(nan)) || !value.Same(callable(3), thing(3)) || value.Same(number(1), boolean(1)) {
		t.Error("Same")
	}
}

func TestSame(t *testing.T) {
	for i, c := range []struct {
		a, b         api.Value
		same, strict bool
	}{
		{undefined, undefined, true, true}, {null, null, true, true}, {undefined, null, false, false},
		{boolean(0), boolean(0), true, true}, {boolean(1), boolean(1), true, true}, {boolean(0), boolean(1), false, false}, {boolean(0), boolean(minus), true, true}, {boolean(2), boolean(2), true, true}, {boolean(2), boolean(1), false, false}, {boolean(nan), boolean(nan), false, false}, {boolean(nan), boolean(0), false, false},
		{number(0), number(0), true, true}, {number(0), number(minus), true, true}, {number(7), number(7), true, true}, {number(7), number(-7), false, false}, {number(0.5), number(0.5), true, true}, {number(inf), number(inf), true, true}, {number(inf), number(-inf), false, false}, {number(most), number(most - 1), false, false},
		{number(nan), number(math.Copysign(nan, -1)), true, false}, {number(nan), number(0), false, false}, {number(nan), number(inf), false, false},
		{text(""), text(""), true, true}, {text("a"), text("a"), true, true}, {text("a"), text("A"), false, false}, {text("a"), text("a "), false, false}, {text("a\x00"), text("a"), false, false}, {text("\xff"), text("\xfe"), false, false}, {text(long(5000)), text(long(5000)), true, true}, {text(long(5000)), text(long(4999)), false, false},
		{symbol(0), symbol(0), true, true}, {symbol(0), symbol(1), false, false}, {symbol(-1), symbol(-1), true, true}, {symbol(2), thing(2), false, false}, {symbol(2), number(2), false, false},
		{thing(3), thing(3), true, true}, {thing(3), callable(3), true, true}, {thing(3), maker(3), true, true}, {callable(3), maker(3), true, true}, {maker(3), maker(3), true, true}, {callable(3), callable(3), true, true},
		{thing(3), thing(4), false, false}, {thing(3), callable(4), false, false}, {callable(3), maker(4), false, false}, {maker(3), maker(4), false, false}, {callable(3), callable(4), false, false}, {thing(-1), maker(-1), true, true}, {thing(-1), thing(-2), false, false},
		{number(1), boolean(1), false, false}, {number(0), boolean(0), false, false}, {number(1), text("1"), false, false}, {text(""), boolean(0), false, false}, {null, number(0), false, false}, {null, thing(0), false, false}, {undefined, text("undefined"), false, false}, {undefined, boolean(0), false, false}, {number(3), thing(3), false, false}, {thing(0), symbol(0), false, false},
		{api.Value{Kind: 9}, api.Value{Kind: 9}, false, false}, {api.Value{Kind: 255}, api.Value{Kind: 255}, false, false}, {api.Value{Kind: 9}, maker(0), false, false}, {api.Value{Kind: 9}, undefined, false, false},
	} {
		for _, a := range append(more(c.a), c.a) {
			for _, b := range append(more(c.b), c.b) {
				holdSame(t, i, a, b, c.same, c.strict)
				holdSame(t, i, b, a, c.same, c.strict)
			}
		}
	}
}

func holdSame(t *testing.T, i int, a, b api.Value, same, strict bool) {
	if value.Same(a, b) != same {
		t.Error(i, "Same", show(a), show(b), !same)
	}
	if value.Strict(a, b) != strict {
		t.Error(i, "Strict", show(a), show(b), !strict)
	}
}

// name is a text that just the values have that are one; empty of a value that is the same as none.
func name(v api.Value) string {
	x := strconv.FormatFloat(v.Num+0, 'g', -1, 64)
	switch v.Kind {
	case 0, 1:
		return "none " + strconv.Itoa(int(v.Kind))
	case 2:
		if x == "NaN" {
			return ""
		}
		return "boolean " + x
	case 3:
		return "number " + x
	case 4:
		return "string " + v.Str
	case 5:
		return "symbol " + strconv.Itoa(v.Ref)
	case 6, 7, 8:
		return "object " + strconv.Itoa(v.Ref)
	}
	return ""
}

func TestSameByNames(t *testing.T) {
	l := several()
	names := make([]string, len(l))
	for i, v := range l {
		names[i] = name(v)
	}
	yes := 0
	for i, a := range l {
		for j, b := range l {
			same := names[i] != "" && names[i] == names[j]
			strict := same && names[i] != "number NaN"
			holdSame(t, i, a, b, same, strict)
			if same {
				yes++
			}
		}
	}
	if yes < 2*len(l) {
		t.Error(yes)
	}
}

// P7.6

type held struct {
	a, b api.Value
	is   bool
	e    api.Errno
}

// plain are rows as the chapter tells them.
func plain() []held {
	return []held{
		{text(" 7 "), number(7), true, api.OK}, {boolean(1), text("1"), true, api.OK}, {undefined, null, true, api.OK}, {null, number(0), false, api.OK}, {text("-0"), number(0), false, api.ErrInexact},
		{undefined, undefined, true, api.OK}, {null, null, true, api.OK},
		{undefined, number(0), false, api.OK}, {undefined, number(nan), false, api.OK}, {undefined, boolean(0), false, api.OK}, {undefined, text(""), false, api.OK}, {undefined, text("undefined"), false, api.OK}, {undefined, symbol(0), false, api.OK},
		{null, boolean(0), false, api.OK}, {null, boolean(1), false, api.OK}, {null, text(""), false, api.OK}, {null, text("null"), false, api.OK}, {null, symbol(0), false, api.OK}, {null, text("-0"), false, api.OK}, {undefined, text("-0"), false, api.OK},
		{boolean(1), boolean(1), true, api.OK}, {boolean(0), boolean(0), true, api.OK}, {boolean(0), boolean(1), false, api.OK}, {boolean(minus), boolean(0), true, api.OK},
		{boolean(1), number(1), true, api.OK}, {boolean(0), number(0), true, api.OK}, {boolean(1), number(0), false, api.OK}, {boolean(1), number(2), false, api.OK}, {boolean(0), number(nan), false, api.OK}, {boolean(minus), number(0), true, api.OK},
		{boolean(0), text("0"), true, api.OK}, {boolean(0), text(""), true, api.OK}, {boolean(0), text(" \t"), true, api.OK}, {boolean(1), text("+01"), true, api.OK}, {boolean(1), text("0"), false, api.OK}, {boolean(1), text("true"), false, api.OK}, {boolean(0), text("false"), false, api.OK}, {boolean(0), text("-0"), false, api.ErrInexact}, {boolean(1), text("9007199254740992"), false, api.ErrInexact}, {boolean(0), symbol(0), false, api.OK}, {boolean(1), symbol(1), false, api.OK},
		{number(7), number(7), true, api.OK}, {number(7), number(-7), false, api.OK}, {number(nan), number(nan), false, api.OK}, {number(nan), number(0), false, api.OK}, {number(2), symbol(2), false, api.OK},
		{number(0), text(""), true, api.OK}, {number(0), text("+0"), true, api.OK}, {number(1), text("1.5"), false, api.OK}, {number(nan), text("1.5"), false, api.OK}, {number(nan), text("NaN"), false, api.OK}, {number(0), text("NaN"), false, api.OK}, {number(0), text("x"), false, api.OK}, {number(-5), text("-5"), true, api.OK}, {number(5), text("-5"), false, api.OK}, {number(most), text("9007199254740991"), true, api.OK}, {number(-most), text("-9007199254740991"), true, api.OK},
		{number(most), text("9007199254740992"), false, api.ErrInexact}, {number(nan), text("9007199254740992"), false, api.ErrInexact}, {number(nan), text("-0"), false, api.ErrInexact}, {number(3), text("-9007199254740992"), false, api.ErrInexact}, {number(3), text(strings.Repeat("9", api.MaxString)), false, api.ErrInexact}, {number(3), text(strings.Repeat(" ", api.MaxString-1) + "3"), true, api.OK},
		{text("a"), text("a"), true, api.OK}, {text("7"), text("07"), false, api.OK}, {text("-0"), text("-0"), true, api.OK}, {text("-0"), text("0"), false, api.OK}, {text("1.5"), text("1.5"), true, api.OK}, {text("9007199254740992"), text("9007199254740992"), true, api.OK}, {text(""), text(" "), false, api.OK}, {text(long(api.MaxString)), text(long(api.MaxString)), true, api.OK},
		{text("symbol 2"), symbol(2), false, api.OK}, {text("2"), symbol(2), false, api.OK}, {text("-0"), symbol(0), false, api.OK},
		{symbol(2), symbol(2), true, api.OK}, {symbol(2), symbol(3), false, api.OK},
	}
}

func holdPlain(t *testing.T, i int, a, b api.Value, is bool, e api.Errno) {
	if got, err := value.Plain(a, b); got != is || err != e {
		t.Error(i, show(a), show(b), got, int(err))
	}
}

func TestPlain(t *testing.T) {
	for i, c := range plain() {
		holdPlain(t, i, c.a, c.b, c.is, c.e)
		holdPlain(t, i, c.b, c.a, c.is, c.e)
	}
}

// Each number and each boolean, held against each string.
func TestPlainOfStrings(t *testing.T) {
	bad := math.Inf(1)
	for _, c := range []struct {
		s string
		x float64
	}{
		{"", 0}, {" ", 0}, {"\t\r\n ", 0}, {"0", 0}, {"+0", 0}, {"000", 0}, {"1", 1}, {" 1", 1}, {"1\n", 1}, {"+1", 1}, {"001", 1}, {"-1", -1}, {" -7\t", -7}, {"1024", 1024}, {"9007199254740991", most}, {"-9007199254740991", -most},
		{"-0", bad}, {"-00 ", bad}, {"9007199254740992", bad}, {"-9007199254740992", bad}, {"1" + strings.Repeat("0", 400), bad},
		{"a", nan}, {"-", nan}, {"+", nan}, {"1.5", nan}, {"1.0", nan}, {"1e2", nan}, {"0x1", nan}, {"1 2", nan}, {"--1", nan}, {"NaN", nan}, {"Infinity", nan}, {"true", nan}, {"false", nan}, {"null", nan}, {"\v1", nan}, {"\x00", nan}, {"\xff", nan}, {"1_0", nan},
	} {
		for _, x := range []float64{0, 1, -1, -7, 7, 2, 1024, nan, most, -most} {
			e := api.OK
			if c.x == bad {
				e = api.ErrInexact
			}
			holdPlain(t, 0, number(x), text(c.s), x == c.x, e)
			holdPlain(t, 1, text(c.s), number(x), x == c.x, e)
			if x == 0 || x == 1 {
				holdPlain(t, 2, boolean(x), text(c.s), x == c.x, e)
				holdPlain(t, 3, text(c.s), boolean(x), x == c.x, e)
			}
		}
	}
}

// What is not held against a number is not read.
func TestPlainOfOthers(t *testing.T) {
	for _, a := range well() {
		for _, b := range well() {
			if a.Kind > api.Symbol || b.Kind > api.Symbol || a.Kind == api.String && b.Kind == api.Number || a.Kind == api.String && b.Kind == api.Boolean || a.Kind == api.Number && b.Kind == api.String || a.Kind == api.Boolean && b.Kind == api.String {
				continue
			}
			is := name(a) == name(b) && name(a) != "number NaN"
			switch {
			case a.Kind <= api.Null && b.Kind <= api.Null:
				is = true
			case a.Kind == api.Boolean && b.Kind == api.Number || a.Kind == api.Number && b.Kind == api.Boolean:
				is = a.Num == b.Num
			}
			holdPlain(t, 0, a, b, is, api.OK)
		}
	}
}

func TestPlainRefuses(t *testing.T) {
	for i, v := range several() {
		if mayBe(v) && v.Kind <= api.Symbol {
			continue
		}
		for _, w := range well() {
			holdPlain(t, i, v, w, false, api.ErrHeap)
			holdPlain(t, i, w, v, false, api.ErrHeap)
		}
		holdPlain(t, i, v, v, false, api.ErrHeap)
		holdPlain(t, i, v, api.Value{Kind: 9}, false, api.ErrHeap)
	}
}

// P7.7

func TestSameFollows(t *testing.T) {
	l := well()
	for i, a := range l {
		if !value.Same(a, a) {
			t.Error(show(a), "is not itself")
		}
		for _, b := range l {
			if value.Same(a, b) != value.Same(b, a) || value.Strict(a, b) != value.Strict(b, a) {
				t.Error(show(a), show(b), "the other way round")
			}
			both := value.Text(a) == "NaN" && value.Text(b) == "NaN"
			if value.Strict(a, b) != (value.Same(a, b) && !both) {
				t.Error(show(a), show(b), "strictly")
			}
			if !value.Same(a, b) {
				continue
			}
			alike(t, a, b)
			for _, c := range l {
				if value.Same(b, c) && !value.Same(a, c) {
					t.Error(i, show(a), show(b), show(c))
				}
			}
		}
	}
}

// alike holds two values that are the same against each other.
func alike(t *testing.T, a, b api.Value) {
	if value.Truth(a) != value.Truth(b) || value.Text(a) != value.Text(b) {
		t.Error(show(a), show(b), "are not alike")
	}
	if value.Calls(a) == value.Calls(b) && value.Type(a) != value.Type(b) {
		t.Error(show(a), show(b), "have two types")
	}
}

func TestPlainFollows(t *testing.T) {
	l := append(well(), several()...)
	for i, a := range l {
		for _, b := range l {
			is, e := value.Plain(a, b)
			if back, f := value.Plain(b, a); back != is || f != e {
				t.Error(i, show(a), show(b), is, int(e), back, int(f))
			}
		}
	}
}
