package coerce_test

import (
	"fmt"
	"math"
	"strings"
	"testing"

	"bailiff/api"
	"bailiff/coerce"
)

// P17.1: what a kind tells of values that are no objects, at once, and the rows of Examples.

func TestExamples(t *testing.T) {
	for _, c := range []struct {
		s   start
		end api.Out
	}{
		{start{coerce.Number, 0, text(" 7 "), undefined}, val(number(7))},
		{start{coerce.Text, 0, number(nan), undefined}, val(text("NaN"))},
		{start{coerce.Key, 0, number(7), undefined}, val(text("7"))},
		{start{coerce.Add, 0, number(1), text("a")}, val(text("1a"))},
		{start{coerce.Less, 0, text("a"), text("b")}, val(boolean(true))},
		{start{coerce.Text, 0, symbol(1), undefined}, refused()},
		{start{coerce.Number, 0, text("-0"), undefined}, inexact()},
		{start{coerce.Like, 0, thing(1), null}, val(boolean(false))},
	} {
		holdTalk(t, c.s, nil, c.end)
	}
	s := start{coerce.Number, 0, thing(3), undefined}
	holdTalk(t, s, []turn{{ownWay(thing(3)), val(undefined)}, {getOf(thing(3), "valueOf"), val(callable(4))}, {callOf(callable(4), thing(3)), val(number(5))}}, val(number(5)))
	holdStart(t, start{kind: 8}, api.ErrArg)
	holdStart(t, start{kind: coerce.Prim, hint: 3}, api.ErrArg)
}

// numbersOf are values with their numbers.
func numbersOf() map[api.Value]api.Out {
	return map[api.Value]api.Out{
		undefined: val(number(nan)), null: val(number(0)), boolean(true): val(number(1)), boolean(false): val(number(0)),
		number(0): val(number(0)), number(-7): val(number(-7)), number(most): val(number(most)), number(-most): val(number(-most)),
		text(""): val(number(0)), text(" \t\r\n"): val(number(0)), text("7"): val(number(7)), text("\t-7\n"): val(number(-7)), text("+007"): val(number(7)), text("+0"): val(number(0)),
		text("x"): val(number(nan)), text("1.5"): val(number(nan)), text("1e3"): val(number(nan)), text("0x10"): val(number(nan)), text("NaN"): val(number(nan)), text("- 7"): val(number(nan)), text("-"): val(number(nan)), text("true"): val(number(nan)),
		text("9007199254740991"): val(number(most)), text("9007199254740992"): inexact(), text("-9007199254740991"): val(number(-most)), text("-9007199254740992"): inexact(), text("-0"): inexact(), text(strings.Repeat("9", api.MaxString)): inexact(),
		symbol(0): refused(), symbol(1): refused(), symbol(math.MaxInt): refused(),
	}
}

func TestNumber(t *testing.T) {
	for v, end := range numbersOf() {
		holdTalk(t, start{coerce.Number, 0, v, undefined}, nil, end)
	}
	holdTalk(t, start{coerce.Number, 0, number(nan), undefined}, nil, val(number(nan)))
	holdTalk(t, start{coerce.Number, 0, nay, undefined}, nil, val(number(0))) // and no minus nought
}

// textsOf are values with their strings; of symbols there is none.
func textsOf() map[api.Value]string {
	return map[api.Value]string{
		undefined: "undefined", null: "null", boolean(true): "true", boolean(false): "false",
		number(0): "0", number(7): "7", number(-7): "-7", number(most): "9007199254740991", number(-most): "-9007199254740991", number(1 << 40): "1099511627776",
		text(""): "", text("a"): "a", text(" 7 "): " 7 ", text("-0"): "-0", text("\"\\\n"): "\"\\\n", text("\x00\xff"): "\x00\xff", text(long(api.MaxString)): long(api.MaxString),
	}
}

func TestText(t *testing.T) {
	for v, s := range textsOf() {
		holdTalk(t, start{coerce.Text, 0, v, undefined}, nil, val(text(s)))
		holdTalk(t, start{coerce.Key, 0, v, undefined}, nil, val(text(s)))
	}
	for _, kind := range []uint8{coerce.Text, coerce.Key} {
		holdTalk(t, start{kind, 0, number(nan), undefined}, nil, val(text("NaN")))
		holdTalk(t, start{kind, 0, nay, undefined}, nil, val(text("false")))
	}
}

// Symbols have no string, but are keys themselves, the one among them that has no number as a key, too.
func TestSymbols(t *testing.T) {
	for _, n := range []int{0, 1, 2, 99, math.MaxInt - 1, math.MaxInt} {
		holdTalk(t, start{coerce.Text, 0, symbol(n), undefined}, nil, refused())
		holdTalk(t, start{coerce.Key, 0, symbol(n), undefined}, nil, val(symbol(n)))
		holdTalk(t, start{coerce.Number, 0, symbol(n), undefined}, nil, refused())
	}
}

// The hint counts for nothing but of Prim, and of no value that is no object.
func TestPrimOfPlains(t *testing.T) {
	for _, v := range plains() {
		for hint := range uint8(3) {
			for _, w := range append(plains()[:3], thing(3)) {
				holdTalk(t, start{coerce.Prim, hint, v, w}, nil, val(v))
			}
		}
	}
}

// The second value counts for nothing of one-valued kinds, even where it may not be.
func TestSecondOfOne(t *testing.T) {
	for _, w := range append(append(illValues(), plains()...), things()...) {
		for hint := range 256 {
			holdTalk(t, start{coerce.Number, uint8(hint), text("7"), w}, nil, val(number(7)))
			holdTalk(t, start{coerce.Text, uint8(hint), number(7), w}, nil, val(text("7")))
			holdTalk(t, start{coerce.Key, uint8(hint), null, w}, nil, val(text("null")))
		}
		holdTalk(t, start{coerce.Prim, 2, null, w}, nil, val(null))
	}
}

// A row is two values, and what comes of them.
type row struct {
	v, w api.Value
	end  api.Out
}

func holdRows(t *testing.T, kind uint8, l []row) {
	t.Helper()
	for i, c := range l {
		s := start{kind, uint8(i), c.v, c.w} // the hint counts for nothing
		holdTalk(t, s, nil, c.end)
	}
}

func is(b bool) api.Out { return val(boolean(b)) }

func TestLike(t *testing.T) {
	l := []row{
		{undefined, null, is(true)}, {undefined, undefined, is(true)}, {null, null, is(true)},
		{null, number(0), is(false)}, {undefined, number(nan), is(false)}, {null, boolean(false), is(false)}, {undefined, boolean(false), is(false)}, {null, text(""), is(false)}, {undefined, text("undefined"), is(false)}, {null, symbol(0), is(false)},
		{boolean(true), boolean(true), is(true)}, {boolean(true), boolean(false), is(false)}, {nay, boolean(false), is(true)}, {nay, number(0), is(true)}, {nay, text("0"), is(true)},
		{boolean(true), number(1), is(true)}, {boolean(true), number(2), is(false)}, {boolean(true), text("1"), is(true)}, {boolean(true), text("true"), is(false)}, {boolean(false), text(""), is(true)}, {boolean(false), text("-0"), inexact()},
		{number(7), number(7), is(true)}, {number(7), number(-7), is(false)}, {number(nan), number(nan), is(false)}, {number(nan), number(0), is(false)},
		{number(7), text(" 7 "), is(true)}, {number(7), text("7x"), is(false)}, {number(nan), text("x"), is(false)}, {number(0), text("-0"), inexact()}, {number(nan), text("-0"), inexact()}, {number(1), text("9007199254740992"), inexact()},
		{text("a"), text("a"), is(true)}, {text("a"), text("A"), is(false)}, {text("7"), text(" 7"), is(false)}, {text("-0"), text("-0"), is(true)}, {text("-0"), text("0"), is(false)}, {text("-0"), null, is(false)},
		{symbol(1), symbol(1), is(true)}, {symbol(1), symbol(2), is(false)}, {symbol(1), number(1), is(false)}, {symbol(1), boolean(true), is(false)}, {symbol(1), text("symbol 1"), is(false)},
		{thing(3), thing(3), is(true)}, {thing(3), callable(3), is(true)}, {callable(3), maker(3), is(true)}, {thing(3), thing(4), is(false)}, {callable(3), callable(4), is(false)}, {maker(0), thing(1), is(false)}, {thing(0), thing(0), is(true)},
		{thing(3), null, is(false)}, {thing(3), undefined, is(false)}, {callable(3), null, is(false)}, {maker(3), undefined, is(false)}, {thing(0), null, is(false)},
	}
	holdRows(t, coerce.Like, l)
	for i, c := range l {
		l[i].v, l[i].w = c.w, c.v
	}
	holdRows(t, coerce.Like, l)
}

func TestLess(t *testing.T) {
	none := val(undefined)
	holdRows(t, coerce.Less, []row{
		{number(1), number(2), is(true)}, {number(2), number(1), is(false)}, {number(1), number(1), is(false)}, {number(-2), number(-1), is(true)}, {number(-most), number(most), is(true)}, {number(most - 1), number(most), is(true)},
		{number(nan), number(1), none}, {number(1), number(nan), none}, {number(nan), number(nan), none}, {undefined, number(1), none}, {number(1), undefined, none}, {undefined, undefined, none},
		{null, number(1), is(true)}, {null, number(0), is(false)}, {null, null, is(false)}, {number(-1), null, is(true)}, {undefined, null, none}, {null, undefined, none},
		{boolean(false), boolean(true), is(true)}, {boolean(true), boolean(false), is(false)}, {boolean(true), number(2), is(true)}, {nay, number(0), is(false)}, {number(0), nay, is(false)},
		{text("a"), text("b"), is(true)}, {text("b"), text("a"), is(false)}, {text("a"), text("a"), is(false)}, {text("10"), text("9"), is(true)}, {text("9"), text("10"), is(false)}, {text(""), text("\x00"), is(true)}, {text("a"), text("ab"), is(true)}, {text("~"), text("\xff"), is(true)}, {text("-0"), text("0"), is(true)}, {text("x"), text("x"), is(false)},
		{text("10"), number(9), is(false)}, {number(9), text("10"), is(true)}, {text("9"), number(10), is(true)}, {text(" 1 "), number(2), is(true)}, {text("x"), number(2), none}, {number(2), text("x"), none}, {text(""), number(1), is(true)}, {text("0"), boolean(true), is(true)}, {null, text("1"), is(true)}, {undefined, text("a"), none}, {text("a"), undefined, none},
		{text("-0"), number(1), inexact()}, {number(1), text("-0"), inexact()}, {number(nan), text("-0"), inexact()}, {undefined, text("9007199254740992"), inexact()},
		{symbol(1), number(1), refused()}, {number(1), symbol(1), refused()}, {symbol(1), symbol(1), refused()}, {symbol(1), text("a"), refused()}, {text("a"), symbol(1), refused()}, {undefined, symbol(0), refused()},
		{symbol(1), text("-0"), refused()}, {text("-0"), symbol(1), inexact()}, // the first one's number comes first
	})
}

func TestAdd(t *testing.T) {
	half, rest := long(api.MaxString/2), long(api.MaxString/2+1)
	holdRows(t, coerce.Add, []row{
		{number(1), number(2), val(number(3))}, {number(7), number(-7), val(number(0))}, {number(most - 1), number(1), val(number(most))}, {number(most), number(1), inexact()}, {number(-most), number(-1), inexact()}, {number(most), number(-most), val(number(0))},
		{number(nan), number(1), val(number(nan))}, {number(1), undefined, val(number(nan))}, {undefined, undefined, val(number(nan))}, {undefined, null, val(number(nan))},
		{null, number(1), val(number(1))}, {null, null, val(number(0))}, {boolean(true), boolean(true), val(number(2))}, {boolean(true), null, val(number(1))}, {nay, nay, val(number(0))}, {nay, number(7), val(number(7))}, {null, nay, val(number(0))},
		{number(1), text("a"), val(text("1a"))}, {text("a"), number(1), val(text("a1"))}, {text("1"), number(2), val(text("12"))}, {number(1), text("2"), val(text("12"))}, {text("a"), text("b"), val(text("ab"))}, {text(""), text(""), val(text(""))}, {text(" a"), text("b "), val(text(" ab "))},
		{text("-"), number(-7), val(text("--7"))}, {text("a"), number(nan), val(text("aNaN"))}, {undefined, text("a"), val(text("undefineda"))}, {text("a"), undefined, val(text("aundefined"))}, {null, text(""), val(text("null"))}, {text(""), boolean(true), val(text("true"))}, {boolean(false), text(""), val(text("false"))}, {nay, text(""), val(text("false"))}, {number(0), text("x"), val(text("0x"))},
		{text("-0"), number(1), val(text("-01"))}, {text("9007199254740992"), null, val(text("9007199254740992null"))},
		{text(half), text(half), val(text(half + half))}, {text(half), text(rest), tooMany()}, {text(long(api.MaxString)), text(""), val(text(long(api.MaxString)))}, {text(long(api.MaxString)), number(1), tooMany()}, {null, text(long(api.MaxString - 4)), val(text("null" + long(api.MaxString-4)))}, {null, text(long(api.MaxString - 3)), tooMany()}, {text(long(api.MaxString)), text(long(api.MaxString)), tooMany()},
		{symbol(1), number(1), refused()}, {number(1), symbol(1), refused()}, {symbol(1), symbol(1), refused()}, {symbol(1), text("a"), refused()}, {text("a"), symbol(1), refused()}, {undefined, symbol(0), refused()}, {symbol(0), text(long(api.MaxString)), refused()}, {text(long(api.MaxString)), symbol(0), refused()},
	})
}

// All values that may be are alike, wherever they stand: no kind and no value is refused by a number.
func TestAllPlains(t *testing.T) {
	for _, v := range plains() {
		for _, w := range plains() {
			for _, kind := range kinds() {
				s := start{kind, 0, v, w}
				holdTalk(t, s, nil, plainly(s))
			}
		}
	}
}

// plainly is what a second reading tells.
func plainly(s start) api.Out {
	h := &host{give: func(w api.Want) api.Out { panic(fmt.Sprint("wants ", cut(w))) }}
	return h.run(s)
}
