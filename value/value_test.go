package value_test

import (
	"fmt"
	"math"
	"testing"

	"bailiff/api"
	"bailiff/value"
)

// show is a value's fields, but of long strings how long they are.
func show(v api.Value) string {
	if len(v.Str) > 40 {
		return fmt.Sprintf("{%d %v of %d bytes %d}", v.Kind, v.Num, len(v.Str), v.Ref)
	}
	return fmt.Sprintf("{%d %v %q %d}", v.Kind, v.Num, v.Str, v.Ref)
}

// P7.1

func TestMay(t *testing.T) {
	for _, f := range facts() {
		if value.May(f.v) != f.may {
			t.Error(show(f.v), !f.may)
		}
		for _, v := range more(f.v) {
			if value.May(v) {
				t.Error(show(v), "has a field too much")
			}
		}
	}
}

// mayBe goes field by field, and asks of each one which kinds may have what stands in it.
func mayBe(v api.Value) bool {
	switch nought := v.Num == 0 && !math.Signbit(v.Num); v.Kind {
	case api.Boolean:
		if v.Num != 0 && v.Num != 1 {
			return false
		}
	case api.Number:
		whole := v.Num == math.Floor(v.Num) && math.Abs(v.Num) < most+1
		if v.Num == v.Num && (!whole || v.Num == 0 && !nought) {
			return false
		}
	default:
		if !nought {
			return false
		}
	}
	if len(v.Str) > 4096 || v.Str != "" && v.Kind != api.String {
		return false
	}
	if v.Ref < 0 || v.Ref != 0 && v.Kind < api.Symbol {
		return false
	}
	return v.Kind <= api.Maker
}

func TestMayOfEvery(t *testing.T) {
	yes, no := 0, 0
	every(func(v api.Value) {
		want := mayBe(v)
		if value.May(v) != want {
			t.Error(show(v), !want)
		}
		if want {
			yes++
		} else {
			no++
		}
	})
	if yes < 40 || no < 10000 {
		t.Error(yes, no)
	}
}

func TestCheck(t *testing.T) {
	for i, c := range []struct {
		v                api.Value
		objects, symbols int
		e                api.Errno
	}{
		{thing(4), 4, 9, api.ErrHeap},
		{thing(4), 5, 0, api.OK}, {callable(4), 5, 0, api.OK}, {maker(4), 5, 0, api.OK},
		{thing(4), 3, 9, api.ErrHeap}, {callable(4), 4, 9, api.ErrHeap}, {maker(4), 4, 9, api.ErrHeap},
		{thing(0), 0, 9, api.ErrHeap}, {callable(0), 0, 9, api.ErrHeap}, {maker(0), 0, 9, api.ErrHeap},
		{thing(0), 1, 0, api.OK}, {callable(0), 1, 0, api.OK}, {maker(0), 1, 0, api.OK},
		{symbol(0), 9, 0, api.ErrHeap}, {symbol(0), 0, 1, api.OK}, {symbol(4), 9, 4, api.ErrHeap}, {symbol(4), 0, 5, api.OK},
		{undefined, 0, 0, api.OK}, {null, 0, 0, api.OK}, {boolean(1), 0, 0, api.OK}, {number(nan), 0, 0, api.OK}, {number(12), 0, 0, api.OK}, {text("a"), 0, 0, api.OK},
		{boolean(2), 9, 9, api.ErrHeap}, {number(0.5), 9, 9, api.ErrHeap}, {number(minus), 9, 9, api.ErrHeap}, {text(long(api.MaxString + 1)), 9, 9, api.ErrHeap},
		{thing(-1), 9, 9, api.ErrHeap}, {callable(-1), 9, 9, api.ErrHeap}, {maker(-1), 9, 9, api.ErrHeap}, {symbol(-1), 9, 9, api.ErrHeap}, {api.Value{Kind: 9}, 9, 9, api.ErrHeap},
		{api.Value{Kind: api.Thing, Ref: 1, Str: "a"}, 9, 9, api.ErrHeap}, {api.Value{Kind: api.Symbol, Ref: 1, Num: 1}, 9, 9, api.ErrHeap},
		{thing(math.MaxInt), math.MaxInt, 0, api.ErrHeap}, {thing(math.MaxInt - 1), math.MaxInt, 0, api.OK},
		{symbol(math.MaxInt), 0, math.MaxInt, api.ErrHeap}, {symbol(math.MaxInt - 1), 0, math.MaxInt, api.OK},
		{undefined, -1, 0, api.ErrArg}, {undefined, 0, -1, api.ErrArg}, {undefined, math.MinInt, math.MinInt, api.ErrArg},
		{thing(0), 1, -1, api.ErrArg}, {symbol(0), -1, 1, api.ErrArg}, {thing(0), -1, 0, api.ErrArg}, {symbol(0), 0, -1, api.ErrArg},
		{api.Value{Kind: 9}, -1, 0, api.ErrArg}, {number(0.5), 0, -1, api.ErrArg}, {thing(-1), -1, 0, api.ErrArg}, {symbol(-2), 9, -1, api.ErrArg},
	} {
		if e := value.Check(c.v, c.objects, c.symbols); e != c.e {
			t.Error(i, show(c.v), c.objects, c.symbols, int(e))
		}
	}
}

func TestCheckOfEvery(t *testing.T) {
	every(func(v api.Value) {
		for _, objects := range []int{-1, 0, 1, 3, math.MaxInt} {
			for _, symbols := range []int{math.MinInt, 0, 2, 4097} {
				want := api.OK
				if objects < 0 || symbols < 0 {
					want = api.ErrArg
				} else if !mayBe(v) || v.Kind == api.Symbol && v.Ref >= symbols || v.Kind > api.Symbol && v.Ref >= objects {
					want = api.ErrHeap
				}
				if e := value.Check(v, objects, symbols); e != want {
					t.Error(show(v), objects, symbols, int(e))
				}
			}
		}
	})
}

// P7.3

func TestExamplesOfTruthAndType(t *testing.T) {
	if value.Truth(number(nan)) || !value.Truth(text("0")) || !value.Truth(thing(0)) {
		t.Error("Truth")
	}
	if value.Type(maker(1)) != "function" || value.Type(null) != "object" {
		t.Error("Type")
	}
}

// Fields that the Kind has not count for nothing.
func TestFacts(t *testing.T) {
	for _, f := range facts() {
		object := f.v.Kind == 6 || f.v.Kind == 7 || f.v.Kind == 8
		calls := f.v.Kind == 7 || f.v.Kind == 8
		for _, v := range append(more(f.v), f.v) {
			if value.Truth(v) != f.truth {
				t.Error("Truth", show(v), !f.truth)
			}
			if s := value.Type(v); s != f.kind {
				t.Error("Type", show(v), s)
			}
			if value.IsObject(v) != object {
				t.Error("IsObject", show(v), !object)
			}
			if value.Calls(v) != calls {
				t.Error("Calls", show(v), !calls)
			}
			if s := value.Text(v); s != f.text {
				t.Error("Text", show(v), s)
			}
		}
	}
}

// P7.4

func TestNumStrBool(t *testing.T) {
	for _, x := range nums() {
		v := value.Num(x)
		if v.Kind != api.Number || v.Str != "" || v.Ref != 0 || math.Float64bits(v.Num) != math.Float64bits(x) {
			t.Error(x, show(v))
		}
	}
	for _, s := range append(strs(), long(api.MaxText+1)) {
		if v := value.Str(s); v != text(s) {
			t.Error(show(v))
		}
	}
	if v := value.Bool(true); v != boolean(1) {
		t.Error(show(v))
	}
	if v := value.Bool(false); v != boolean(0) || math.Signbit(v.Num) {
		t.Error(show(v))
	}
}

func TestMadeMay(t *testing.T) {
	for _, v := range []api.Value{value.Num(0), value.Num(nan), value.Num(-most), value.Str(""), value.Str(long(api.MaxString)), value.Bool(true), value.Bool(false)} {
		if !value.May(v) {
			t.Error(show(v))
		}
	}
	for _, v := range []api.Value{value.Num(minus), value.Num(0.5), value.Num(inf), value.Str(long(api.MaxString + 1))} {
		if value.May(v) {
			t.Error(show(v))
		}
	}
}

// P7.5

func TestExamplesOfText(t *testing.T) {
	for i, c := range []struct {
		v    api.Value
		want string
	}{{text("a\n"), `"a\n"`}, {callable(4), "object 4"}, {symbol(2), "symbol 2"}} {
		if s := value.Text(c.v); s != c.want {
			t.Error(i, s)
		}
	}
}

// Only of a value that there is not, or of a float that is none of our numbers, nothing is shown.
func TestTextOfEvery(t *testing.T) {
	every(func(v api.Value) {
		s := value.Text(v)
		if none := v.Kind > api.Maker || v.Kind == api.Number && !mayBe(number(v.Num)); none != (s == "") {
			t.Error(show(v), len(s))
		}
		if want := fmt.Sprint("object ", v.Ref); v.Kind > api.Symbol && v.Kind <= api.Maker && s != want {
			t.Error(show(v), s)
		}
		if want := fmt.Sprint("symbol ", v.Ref); v.Kind == api.Symbol && s != want {
			t.Error(show(v), s)
		}
	})
}
