package table_test

import (
	"fmt"
	"slices"
	"testing"

	"bailiff/api"
	"bailiff/table"
)

// P10.3

func TestExampleOfKeys(t *testing.T) {
	holdKeys(t, those(of("b"), of("2"), symbol(0), of("1"), of("a")), []api.Key{of("1"), of("2"), of("b"), of("a"), symbol(0)})
}

func holdKeys(t *testing.T, l []api.Prop, want []api.Key) {
	t.Helper()
	if got, e := table.Keys(l); !slices.Equal(got, want) || e != api.OK {
		t.Error(show(l), showKeys(got), int(e))
	}
}

func holdNames(t *testing.T, l []api.Prop, want []api.Key) {
	t.Helper()
	if got, e := table.Names(l); !slices.Equal(got, want) || e != api.OK {
		t.Error(show(l), showKeys(got), int(e))
	}
}

// ranked is a second reading of Keys: each index' key is looked for in turn, then the other strings', then the symbols'.
func ranked(l []api.Prop) []api.Key {
	var out, strings, symbols []api.Key
	there := map[api.Key]int{}
	for _, p := range l {
		there[p.Key] = 1
	}
	index := map[api.Key]int{}
	for n := range api.MaxLength {
		k := of(fmt.Sprint(n))
		index[k] = 1
		if there[k] == 1 {
			out = append(out, k)
		}
	}
	for _, p := range l {
		switch {
		case p.Key.Sym > 0:
			symbols = append(symbols, p.Key)
		case index[p.Key] == 0:
			strings = append(strings, p.Key)
		}
	}
	return slices.Concat(out, strings, symbols)
}

func TestKeysOfAllShort(t *testing.T) {
	for _, l := range lists([]api.Key{of("b"), of("10"), of("9"), of("a"), symbol(1), symbol(0)}, 4) {
		want := ranked(l)
		holdKeys(t, l, want)
		holdNames(t, l, slices.DeleteFunc(want, func(k api.Key) bool { return k.Sym > 0 }))
	}
}

func TestKeys(t *testing.T) {
	holdKeys(t, nil, nil)
	holdKeys(t, []api.Prop{}, nil)
	holdNames(t, nil, nil)
	mixed := those(symbol(7), of("z"), of("1024"), of("1023"), of("01"), of("-1"), of("0"), of(""), symbol(0), of("symbol 0"), of("1"))
	holdKeys(t, mixed, []api.Key{of("0"), of("1"), of("1023"), of("z"), of("1024"), of("01"), of("-1"), of(""), of("symbol 0"), symbol(7), symbol(0)})
	var falling []api.Key
	for n := api.MaxProps - 1; n >= 0; n-- {
		falling = append(falling, of(fmt.Sprint(n)))
	}
	holdKeys(t, those(falling...), ranked(those(falling...)))
	holdNames(t, those(falling...), ranked(those(falling...)))
}

// Keys tells what is not enumerable as well, Names does not, of data and of accessors, whatever else they are.
func TestNames(t *testing.T) {
	for _, d := range goodDescs() {
		l := []api.Prop{prop(of("b"), d), prop(symbol(0), d), prop(of("2"), d), prop(of("a"), usual(1)), prop(symbol(1), usual(1)), prop(of("1"), d), prop(of("0"), data(number(1), true, false, true))}
		holdKeys(t, l, []api.Key{of("0"), of("1"), of("2"), of("b"), of("a"), symbol(0), symbol(1)})
		want := []api.Key{of("a")}
		if d.Enumerable {
			want = []api.Key{of("1"), of("2"), of("b"), of("a")}
		}
		holdNames(t, l, want)
	}
	holdNames(t, []api.Prop{prop(of(""), usual(1))}, []api.Key{of("")})
	holdNames(t, []api.Prop{prop(symbol(0), usual(1))}, nil)
	holdNames(t, []api.Prop{prop(of("a"), data(number(1), true, false, true))}, nil)
}

// P10.4

func TestExamplesOfSealedAndFrozen(t *testing.T) {
	holdFixed(t, nil, true, true)
	holdFixed(t, []api.Prop{}, true, true)
}

func holdFixed(t *testing.T, l []api.Prop, sealed, frozen bool) {
	t.Helper()
	if is, e := table.Sealed(l); is != sealed || e != api.OK {
		t.Error("Sealed", show(l), is, int(e))
	}
	if is, e := table.Frozen(l); is != frozen || e != api.OK {
		t.Error("Frozen", show(l), is, int(e))
	}
}

func TestSealedAndFrozen(t *testing.T) {
	f := callable(3)
	for _, c := range []struct {
		d              api.Desc
		sealed, frozen bool
	}{
		{data(number(1), false, false, false), true, true},
		{data(number(1), false, true, false), true, true},
		{data(number(1), true, false, false), true, false},
		{data(number(1), true, true, false), true, false},
		{data(number(1), false, false, true), false, false},
		{data(number(1), true, true, true), false, false},
		{access(f, f, false, false), true, true},
		{access(f, f, true, false), true, true},
		{access(api.Value{}, api.Value{}, false, false), true, true},
		{access(f, f, false, true), false, false},
	} {
		holdFixed(t, []api.Prop{prop(of("a"), c.d)}, c.sealed, c.frozen)
		holdFixed(t, []api.Prop{prop(symbol(0), c.d)}, c.sealed, c.frozen)
	}
}

// One property that is not so is enough, wherever it stands.
func TestSealedAndFrozenOfThree(t *testing.T) {
	descs := goodDescs()
	fixed := data(number(1), false, true, false)
	for i, a := range descs {
		for _, b := range descs {
			l := []api.Prop{prop(of("a"), fixed), prop(of("1"), fixed), prop(symbol(0), fixed)}
			l[i%3].Desc, l[(i+1)%3].Desc = a, b
			sealed := !a.Configurable && !b.Configurable
			holdFixed(t, l, sealed, sealed && !(a.Has == 51 && a.Writable) && !(b.Has == 51 && b.Writable))
		}
	}
}

func TestSealedAndFrozenOfFull(t *testing.T) {
	l := full(api.MaxProps)
	for i := range l {
		l[i].Desc = data(number(1), false, true, false)
	}
	holdFixed(t, l, true, true)
	l[api.MaxProps-1].Desc.Writable = true
	holdFixed(t, l, true, false)
	l[0].Desc.Configurable = true
	holdFixed(t, l, false, false)
}

// P10.6

func TestKeysHasEachOnce(t *testing.T) {
	for _, l := range append(lists([]api.Key{of("1"), of("0"), of("a"), symbol(0)}, 4), those(goodKeys()...), full(api.MaxProps)) {
		keys, e := table.Keys(l)
		if e != api.OK || len(keys) != len(l) {
			t.Error(show(l), showKeys(keys), int(e))
		}
		for _, p := range l {
			if !slices.Contains(keys, p.Key) {
				t.Error(show(l), showKeys(keys))
			}
		}
	}
}

func TestFrozenIsSealed(t *testing.T) {
	count := 0
	for _, a := range goodDescs() {
		for _, b := range goodDescs() {
			l := []api.Prop{prop(of("a"), a), prop(symbol(0), b)}
			frozen, _ := table.Frozen(l)
			sealed, _ := table.Sealed(l)
			if frozen && !sealed {
				t.Error(show(l))
			}
			if frozen {
				count++
			}
		}
	}
	if count < 100 {
		t.Error(count)
	}
}
