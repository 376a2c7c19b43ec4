package key_test

import (
	"cmp"
	"fmt"
	"math"
	"slices"
	"strings"

	"bailiff/api"
)

const most = float64(api.MaxSafe)

var (
	nan   = math.NaN()
	inf   = math.Inf(1)
	minus = math.Copysign(0, -1)
)

// of is the key of a string, symbol that of a symbol, both is one with any two fields.
func of(s string) api.Key            { return api.Key{Str: s} }
func symbol(n int) api.Key           { return api.Key{Sym: n + 1} }
func both(s string, sym int) api.Key { return api.Key{Str: s, Sym: sym} }

func boolean(x float64) api.Value { return api.Value{Kind: api.Boolean, Num: x} }
func number(x float64) api.Value  { return api.Value{Kind: api.Number, Num: x} }
func text(s string) api.Value     { return api.Value{Kind: api.String, Str: s} }
func sign(n int) api.Value        { return api.Value{Kind: api.Symbol, Ref: n} }

var undefined, null = api.Value{Kind: api.Undefined}, api.Value{Kind: api.Null}

func long(n int) string { return strings.Repeat("x", n) }

// show is a key's fields, but of long strings how long they are.
func show(k api.Key) string {
	if len(k.Str) > 40 {
		return fmt.Sprintf("{of %d bytes %d}", len(k.Str), k.Sym)
	}
	return fmt.Sprintf("{%q %d}", k.Str, k.Sym)
}

func showValue(v api.Value) string {
	if len(v.Str) > 40 {
		return fmt.Sprintf("{%d %v of %d bytes %d}", v.Kind, v.Num, len(v.Str), v.Ref)
	}
	return fmt.Sprintf("{%d %v %q %d}", v.Kind, v.Num, v.Str, v.Ref)
}

// indices are the texts that are an index, each with its number.
func indices() map[string]int {
	m := map[string]int{}
	for n := range 1024 {
		m[fmt.Sprint(n)] = n
	}
	return m
}

// strs are strings of all sorts: indices, what is nearly one, and others.
func strs() []string {
	l := []string{
		"", "0", "1", "9", "10", "99", "100", "999", "1000", "1022", "1023",
		"1024", "1025", "1030", "1100", "2000", "9999", "10000", "10230", "4294967295", "4294967296", "4294967297", "9007199254740991", "9007199254740992", "18446744073709551615", "18446744073709551616", "18446744073709551617", "340282366920938463463374607431768211457",
		"00", "01", "007", "0001", "0000", "01023", "00000000000000001",
		"-0", "-1", "-10", "-1023", "+0", "+1", "+10", "--1", "+-1", "-", "+",
		" 1", "1 ", " 1 ", "\t1", "1\n", "\r1", "1\x00", "\x001", "1\v", "\f1", "1\xa0", "1 0", " ", "\t", "\n",
		"1.0", "1.", ".1", "0.0", "1e2", "1e0", "0x1", "0b1", "0o7", "1_0", "1,000", "1n", "1f", "01x", "x1", "1x", "NaN", "Infinity", "١", "１", "\xb9",
		"a", "b", "A", "ab", "a\"b", "a\\b", "a\nb", "\xff", "\x7f", "\"", "\\", "\"1\"", "true", "false", "null", "undefined", "symbol 0", "symbol 1", "object 0", "length",
		strings.Repeat("0", 40) + "1", strings.Repeat(" ", 40) + "1", strings.Repeat("1", 400), long(api.MaxString - 1), long(api.MaxString), long(api.MaxString + 1), strings.Repeat("0", api.MaxString), strings.Repeat("9", api.MaxString+1), long(api.MaxText + 1),
	}
	return l
}

func syms() []int {
	return []int{0, 1, 2, 3, 11, 1023, 1024, api.MaxObjects, math.MaxInt - 1, math.MaxInt, -1, -2, math.MinInt}
}

// every is each of these strings with each of these symbols: keys that may be, and others.
func every() []api.Key {
	var l []api.Key
	for _, s := range strs() {
		for _, n := range syms() {
			l = append(l, both(s, n))
		}
	}
	return l
}

// well are keys that may be, no two of them the same.
func well() []api.Key {
	var l []api.Key
	for _, s := range strs() {
		if len(s) <= 4096 {
			l = append(l, of(s))
		}
	}
	for n := range 1100 {
		l = append(l, symbol(n), of(fmt.Sprint(n)), of(fmt.Sprint("symbol ", n)))
	}
	for c := range 256 {
		for d := range 256 {
			l = append(l, of(string([]byte{byte(c), byte(d)})))
		}
	}
	l = append(l, symbol(math.MaxInt-1), symbol(math.MaxInt-2), symbol(1<<40))
	slices.SortFunc(l, func(a, b api.Key) int { return cmp.Or(cmp.Compare(a.Sym, b.Sym), cmp.Compare(a.Str, b.Str)) })
	return slices.Compact(l)
}
