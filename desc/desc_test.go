package desc_test

import (
	"fmt"
	"strings"
	"testing"

	"bailiff/api"
	"bailiff/desc"
	"bailiff/value"
)

// P9.1

func TestExamplesOfCheck(t *testing.T) {
	if e := desc.Check(of(val(number(1)), get(callable(3)))); e != api.ErrDesc {
		t.Error(int(e))
	}
	if e := desc.Check(of(get(number(1)))); e != api.ErrDesc {
		t.Error(int(e))
	}
}

func TestCheck(t *testing.T) {
	for _, d := range well() {
		if e := desc.Check(d); e != api.OK {
			t.Error(show(d), int(e))
		}
	}
	for _, d := range ill() {
		if e := desc.Check(d); e != api.ErrDesc {
			t.Error(show(d), int(e))
		}
	}
}

func TestCheckOfValues(t *testing.T) {
	for i, v := range []api.Value{null, boolean(0), boolean(minus), number(0), number(most), number(-most), number(nan), text(""), text(long(api.MaxString)), symbol(0), thing(0), callable(0), maker(1 << 40)} {
		for _, d := range []api.Desc{of(val(v)), of(val(v), conf(false)), dataOf(v, false, true, false)} {
			if e := desc.Check(d); e != api.OK {
				t.Error(i, show(d), int(e))
			}
		}
	}
	for i, v := range []api.Value{undefined, callable(0), maker(0), callable(1 << 40)} {
		for _, d := range []api.Desc{of(get(v)), of(set(v)), accessOf(v, v, false, true)} {
			if e := desc.Check(d); e != api.OK {
				t.Error(i, show(d), int(e))
			}
		}
	}
}

// A minus nought is equal to 0, so in a Get that a descriptor does not have it is zero; as a Value it may not be, had or not.
func TestCheckOfMinusNought(t *testing.T) {
	odd := api.Value{Num: minus}
	for i, c := range []struct {
		d api.Desc
		e api.Errno
	}{
		{api.Desc{Get: odd}, api.OK}, {api.Desc{Set: odd}, api.OK}, {api.Desc{Value: odd}, api.ErrDesc},
		{of(get(odd)), api.ErrDesc}, {of(set(odd)), api.ErrDesc}, {of(val(odd)), api.ErrDesc},
		{api.Desc{Has: hasGet, Value: odd}, api.ErrDesc}, {api.Desc{Has: hasGet, Set: odd}, api.OK},
	} {
		if e := desc.Check(c.d); e != c.e {
			t.Error(i, show(c.d), int(e))
		}
	}
}

// Each Has, with no field set, and with all of them.
func TestEveryHas(t *testing.T) {
	for n := range 256 {
		bit := func(b int) bool { return n/b%2 == 1 }
		isData, isAccess := bit(1) || bit(2), bit(4) || bit(8)
		none := api.Desc{Has: uint8(n)}
		full := api.Desc{Has: uint8(n), Value: number(0.5), Get: null, Set: thing(-1), Writable: true, Enumerable: true, Configurable: true}
		for _, d := range []api.Desc{none, full} {
			if desc.IsData(d) != isData || desc.IsAccess(d) != isAccess || desc.IsPlain(d) != (!isData && !isAccess) {
				t.Error(show(d), desc.IsData(d), desc.IsAccess(d), desc.IsPlain(d))
			}
		}
		want := api.OK
		if n > 63 || isData && isAccess {
			want = api.ErrDesc
		}
		if e := desc.Check(none); e != want {
			t.Error(show(none), int(e))
		}
		if e := desc.Check(full); e != api.ErrDesc {
			t.Error(show(full), int(e))
		}
	}
}

// Each Has, with one field set at a time: the descriptor may be, if it has that one.
func TestEveryHasWithOne(t *testing.T) {
	for n := range 64 {
		if n&3 != 0 && n&12 != 0 {
			continue
		}
		for i, p := range []part{val(number(1)), write(true), get(callable(3)), set(maker(3)), enum(true), conf(true)} {
			d := of(p)
			d.Has = uint8(n)
			want := api.ErrDesc
			if n>>i&1 == 1 {
				want = api.OK
			}
			if e := desc.Check(d); e != want {
				t.Error(show(d), int(e))
			}
		}
	}
}

// P9.2

func TestExamplesOfComplete(t *testing.T) {
	for i, c := range []struct{ d, want api.Desc }{
		{of(val(number(1))), dataOf(number(1), false, false, false)},
		{of(get(undefined)), accessOf(undefined, undefined, false, false)},
		{of(), dataOf(undefined, false, false, false)},
	} {
		holdComplete(t, i, c.d, c.want)
	}
}

func holdComplete(t *testing.T, i int, d, want api.Desc) {
	t.Helper()
	if got, e := desc.Complete(d); !equal(got, want) || e != api.OK {
		t.Error(i, show(d), show(got), int(e))
	}
}

func TestComplete(t *testing.T) {
	for i, c := range []struct{ d, want api.Desc }{
		{of(write(true)), dataOf(undefined, true, false, false)},
		{of(write(false)), dataOf(undefined, false, false, false)},
		{of(val(text("a")), enum(true)), dataOf(text("a"), false, true, false)},
		{of(val(null), conf(true)), dataOf(null, false, false, true)},
		{of(val(undefined), write(true), conf(false)), dataOf(undefined, true, false, false)},
		{of(val(boolean(minus))), dataOf(boolean(minus), false, false, false)},
		{of(enum(true)), dataOf(undefined, false, true, false)},
		{of(conf(true)), dataOf(undefined, false, false, true)},
		{of(enum(true), conf(true)), dataOf(undefined, false, true, true)},
		{of(get(callable(3))), accessOf(callable(3), undefined, false, false)},
		{of(set(maker(3)), enum(true)), accessOf(undefined, maker(3), true, false)},
		{of(set(undefined), conf(true)), accessOf(undefined, undefined, false, true)},
		{of(get(callable(3)), set(maker(4)), enum(false)), accessOf(callable(3), maker(4), false, false)},
		{api.Desc{Has: hasGet, Set: api.Value{Num: minus}}, accessOf(undefined, undefined, false, false)},
		{api.Desc{Has: hasValue, Get: api.Value{Num: minus}}, dataOf(undefined, false, false, false)},
	} {
		holdComplete(t, i, c.d, c.want)
	}
}

func TestCompleteOfEach(t *testing.T) {
	for i, d := range well() {
		holdComplete(t, i, d, made(completed(read(d))))
	}
}

func TestCompleteRefuses(t *testing.T) {
	for i, d := range ill() {
		if got, e := desc.Complete(d); !equal(got, api.Desc{}) || e != api.ErrDesc {
			t.Error(i, show(d), show(got), int(e))
		}
	}
}

func TestData(t *testing.T) {
	for i, v := range append(values(), null, number(0.5), number(minus), number(inf), text(long(api.MaxString+1)), thing(-1), api.Value{Kind: 9}, api.Value{Kind: 255, Num: nan, Str: "x", Ref: -1}) {
		want := api.Desc{Has: 51, Value: v, Writable: true, Enumerable: true, Configurable: true}
		if d := desc.Data(v); !equal(d, want) {
			t.Error(i, show(d))
		}
	}
}

// P9.4

// Each is the same as itself, and as those alone whose fields have the same names.
func TestSameOfEach(t *testing.T) {
	l := well()
	names := make([]string, len(l))
	for i, d := range l {
		names[i] = fmt.Sprint(read(d).named())
	}
	yes := 0
	for i, a := range l {
		for j, b := range l {
			want := names[i] == names[j]
			if got := desc.Same(a, b); got != want {
				t.Error(show(a), show(b), got)
			}
			if want && i != j {
				yes++
			}
		}
	}
	if yes < 100 {
		t.Error(yes)
	}
}

func TestSame(t *testing.T) {
	high := func(d api.Desc, has uint8) api.Desc {
		d.Has |= has
		return d
	}
	for i, c := range []struct {
		a, b api.Desc
		same bool
	}{
		{of(), of(), true},
		{of(val(number(nan))), of(val(number(nan))), true},
		{of(val(thing(3))), of(val(callable(3))), true},
		{of(val(number(0))), of(val(number(minus))), true},
		{of(val(number(0.5))), of(val(number(0.5))), true},
		{of(val(number(1))), of(val(boolean(1))), false},
		{of(val(undefined)), of(), false},
		{of(val(undefined)), of(write(false)), false},
		{of(enum(false)), of(conf(false)), false},
		{of(get(undefined)), of(set(undefined)), false},
		{of(get(callable(3))), of(get(maker(3))), true},
		{of(get(callable(3))), of(get(callable(4))), false},
		{of(set(callable(3))), of(set(callable(4))), false},
		{of(get(number(1))), of(get(number(1))), true},
		{of(get(number(1))), of(get(number(2))), false},
		{of(set(null)), of(set(undefined)), false},
		{of(val(api.Value{Kind: 9})), of(val(api.Value{Kind: 9})), false},
		{of(get(api.Value{Kind: 9})), of(get(api.Value{Kind: 9})), false},
		{of(set(api.Value{Kind: 9})), of(set(api.Value{Kind: 9})), false},
		{of(val(api.Value{Ref: 1})), of(val(api.Value{Num: 7, Str: "x"})), true},
		{of(val(number(1)), get(callable(3))), of(val(number(1)), get(callable(3))), true},
		{of(val(number(1)), get(callable(3))), of(val(number(1)), get(callable(4))), false},
		{of(val(number(1)), get(callable(3))), of(val(number(2)), get(callable(3))), false},
		{high(of(), 64), high(of(), 64), true},
		{high(of(), 64), of(), false},
		{high(of(), 64), high(of(), 128), false},
		{high(of(val(number(1))), 192), high(of(val(number(1))), 192), true},
		{high(of(val(number(1))), 192), high(of(val(number(2))), 192), false},
		{high(of(conf(true)), 128), high(of(conf(false)), 128), false},
	} {
		if desc.Same(c.a, c.b) != c.same || desc.Same(c.b, c.a) != c.same {
			t.Error(i, show(c.a), show(c.b), !c.same)
		}
	}
}

// What stands in fields that are not had counts for nothing, and what stands in those that are had does.
func TestSameLooksAtWhatIsHad(t *testing.T) {
	for n := range 256 {
		a := api.Desc{Has: uint8(n), Value: number(1), Get: callable(3), Set: maker(3), Writable: true, Enumerable: false, Configurable: true}
		if !desc.Same(a, a) {
			t.Error(show(a), "is not itself")
		}
		for i, p := range []part{val(number(2)), write(false), get(undefined), set(callable(4)), enum(true), conf(false)} {
			b := a
			p(&b)
			b.Has = a.Has
			if want := n>>i&1 == 0; desc.Same(a, b) != want || desc.Same(b, a) != want {
				t.Error(show(a), show(b), !want)
			}
		}
		for m := range 256 {
			b := a
			b.Has = uint8(m)
			if desc.Same(a, b) != (n == m) {
				t.Error(show(a), show(b))
			}
		}
	}
}

// P9.5

func TestExamplesOfText(t *testing.T) {
	if s := desc.Text(desc.Data(number(1))); s != "value 1, writable yes, enumerable yes, configurable yes" {
		t.Error(s)
	}
	if s := desc.Text(of()); s != "nothing" {
		t.Error(s)
	}
}

func TestText(t *testing.T) {
	for i, c := range []struct {
		d api.Desc
		s string
	}{
		{dataOf(undefined, false, false, false), "value undefined, writable no, enumerable no, configurable no"},
		{dataOf(text("a\n"), false, true, false), `value "a\n", writable no, enumerable yes, configurable no`},
		{accessOf(callable(3), undefined, true, false), "get object 3, set undefined, enumerable yes, configurable no"},
		{accessOf(undefined, maker(12), false, true), "get undefined, set object 12, enumerable no, configurable yes"},
		{of(val(number(nan))), "value NaN"},
		{of(val(symbol(2)), conf(false)), "value symbol 2, configurable no"},
		{of(write(true)), "writable yes"},
		{of(write(false), enum(true)), "writable no, enumerable yes"},
		{of(set(callable(1))), "set object 1"},
		{of(enum(false)), "enumerable no"},
		{of(conf(true)), "configurable yes"},
		{of(val(null), get(number(7))), "value null, get 7"},
		{of(val(api.Value{Kind: 9})), "value "},
		{of(val(number(0.5)), write(true)), "value " + value.Text(number(0.5)) + ", writable yes"},
		{of(get(api.Value{Kind: 9}), set(api.Value{Kind: 255})), "get , set "},
		{of(val(text(long(api.MaxString + 1)))), `value "` + long(api.MaxString+1) + `"`},
		{api.Desc{Has: 64}, "nothing"},
		{api.Desc{Has: 192, Value: number(1), Writable: true, Enumerable: true}, "nothing"},
		{api.Desc{Has: 144, Value: number(1)}, "enumerable no"},
		{api.Desc{Value: number(1), Get: callable(3), Set: callable(3), Writable: true, Enumerable: true, Configurable: true}, "nothing"},
	} {
		if s := desc.Text(c.d); s != c.s {
			t.Error(i, show(c.d), s)
		}
	}
}

func TestTextOfEveryHas(t *testing.T) {
	d := api.Desc{Value: text("a, b"), Get: callable(3), Set: maker(4), Writable: true, Enumerable: false, Configurable: true}
	words := []string{`value "a, b"`, "writable yes", "get object 3", "set object 4", "enumerable no", "configurable yes"}
	for n := range 256 {
		var l []string
		for i, w := range words {
			if n>>i&1 == 1 {
				l = append(l, w)
			}
		}
		want := strings.Join(l, ", ")
		if want == "" {
			want = "nothing"
		}
		d.Has = uint8(n)
		if s := desc.Text(d); s != want {
			t.Error(n, s)
		}
	}
}
