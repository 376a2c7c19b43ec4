package exotic_test

import (
	"slices"
	"strconv"
	"testing"

	"bailiff/api"
	"bailiff/desc"
	"bailiff/exotic"
	"bailiff/heap"
	same "bailiff/value"
)

// P13.7

// A long run of asks made by a short rule: what each array and each string object has told once about what cannot change stays so.
func TestARun(t *testing.T) {
	next, l := rule(5), parts()
	tally := map[uint8]int{}
	cuts := map[bool]int{}
	for range 60 {
		h := house()
		for range 300 {
			a := anyAsk(next, l)
			after, out, e := exotic.Do(h, a)
			if e != api.OK {
				t.Fatal(showAsk(a), int(e))
			}
			if out.Bool {
				tally[a.Method]++
			}
			if len(after.Objects[a.Object].Props) < len(h.Objects[a.Object].Props) && a.Method == api.DefineOwnProperty {
				cuts[out.Bool]++
			}
			holdStep(t, h, a, after, out)
			if h = after; t.Failed() {
				return
			}
		}
	}
	for _, m := range []uint8{2, 3, 4, 6, 10} {
		if tally[m] < 60 {
			t.Error(m, tally)
		}
	}
	if cuts[true] < 60 || cuts[false] < 20 {
		t.Error(cuts)
	}
}

// anyAsk is one that may be in house.
func anyAsk(next func(n int) int, l []api.Desc) api.Ask {
	n := exotics()[next(len(exotics()))]
	k := []api.Key{of("a"), of("q"), symbol(0), symbol(3), length, of("01")}[next(6)]
	if next(2) == 0 {
		k = element(next(12))
	}
	switch i := next(24); {
	case i < 6:
		return define(n, k, l[next(len(l))])
	case i < 9:
		return define(n, k, usual(number(float64(next(12)))))
	case i < 13:
		return define(n, length, sized(float64(next(12)), api.Desc{Has: 16}))
	case i < 17:
		return erase(n, k)
	case i < 19:
		return setProto(n, append(values(), null)[next(houseSize+1)])
	case i == 19 && next(4) == 0:
		return prevent(n)
	case i == 20 && next(4) == 0:
		return define(n, length, api.Desc{Has: 2})
	case i < 22:
		return extensible(n)
	case i == 22:
		return keys(n)
	}
	return get(n, k)
}

// holdStep holds what a heap was and what it is behind an ask against what follows.
func holdStep(t *testing.T, h api.Heap, a api.Ask, after api.Heap, out api.Out) {
	t.Helper()
	wrong := func(what string) { t.Error(what, brief(h), showAsk(a), showOut(out), brief(after)) }
	if heap.Check(after) != api.OK {
		wrong("a heap that may not be")
	}
	was, is := h.Objects[a.Object], after.Objects[a.Object]
	rest, others := heap.Twin(h), heap.Twin(after)
	rest.Objects[a.Object], others.Objects[a.Object] = api.Object{}, api.Object{}
	if !heap.Same(rest, others) || is.Kind != was.Kind || is.Text != was.Text || is.Calls != was.Calls || is.Makes != was.Makes {
		wrong("another object, or another field")
	}
	if !was.Ext && (is.Ext || is.Proto != was.Proto || news(was, is)) {
		wrong("a closed object with another Ext, another Proto, a new key")
	}
	for _, p := range was.Props {
		if d, found := own(is, p.Key); !p.Desc.Configurable && (!found || turned(p.Desc, d)) {
			wrong("a property that is another one, or none")
		}
	}
	if was.Kind == api.Boxed {
		holdText(t, after, a.Object, was.Text)
		return
	}
	size, writable, _ := exotic.Length(h, a.Object)
	now, still, _ := exotic.Length(after, a.Object)
	if !writable && (still || now != size) {
		wrong("another length")
	}
	for _, p := range is.Props {
		if i, e := strconv.Atoi(p.Key.Str); isIndex(p.Key) && e == nil && i >= now {
			wrong("an index that is not below the length")
		}
	}
}

// news tells whether there is a key that was not there.
func news(was, is api.Object) bool {
	return slices.ContainsFunc(is.Props, func(p api.Prop) bool {
		_, found := own(was, p.Key)
		return !found
	})
}

func own(o api.Object, k api.Key) (api.Desc, bool) {
	for _, p := range o.Props {
		if p.Key == k {
			return p.Desc, true
		}
	}
	return api.Desc{}, false
}

// turned tells whether a property that is not configurable became what it must not.
func turned(was, is api.Desc) bool {
	if is.Configurable || is.Enumerable != was.Enumerable || is.Has != was.Has {
		return true
	}
	if was.Has == 60 {
		return is.Get != was.Get || is.Set != was.Set
	}
	return !was.Writable && (is.Writable || !same.Same(is.Value, was.Value))
}

// holdText holds a string object's own bytes and length against its text: the first few, and the last ones that have an index.
func holdText(t *testing.T, h api.Heap, n int, s string) {
	t.Helper()
	holdDo(t, h, get(n, length), h, api.Out{Kind: 1, Found: true, Desc: stuck(number(float64(len(s))))}, api.OK)
	for _, i := range []int{0, 1, 2, 1022, 1023} {
		if i < len(s) {
			holdDo(t, h, get(n, element(i)), h, api.Out{Kind: 1, Found: true, Desc: data(text(s[i:i+1]), false, true, false)}, api.OK)
		}
	}
}

// What was defined, other than an array's length, is told by what was asked; what was deleted is not told.
func TestWhatWasDefinedIsTold(t *testing.T) {
	for _, n := range exotics() {
		for _, k := range []api.Key{of("a"), of("q"), element(0), element(1), element(2), element(3), element(900), symbol(0), length} {
			for _, d := range []api.Desc{{}, value(4), {Has: 34, Configurable: true, Writable: true}, usual(text("new")), both(callable(aNative), undefined)} {
				h, out, e := exotic.Do(house(), define(n, k, d))
				if e != api.OK || !out.Bool {
					continue
				}
				_, got, _ := exotic.Do(h, get(n, k))
				_, l, _ := exotic.Do(h, keys(n))
				if !got.Found || !desc.Same(only(d.Has, got.Desc), d) || !slices.Contains(l.Keys, k) {
					t.Error(n, k, showDesc(d), showOut(got))
				}
				h, out, _ = exotic.Do(h, erase(n, k))
				if out.Bool != got.Desc.Configurable {
					t.Error(n, k, showOut(out))
				}
				_, l, _ = exotic.Do(h, keys(n))
				if slices.Contains(l.Keys, k) == out.Bool {
					t.Error(n, k, showOut(l))
				}
			}
		}
	}
}

// Made, and asked: an array of values tells them, and grows and shrinks as it is told.
func TestMadeAndAsked(t *testing.T) {
	h, n, e := exotic.Make(house(), numbers(20), thing(anArray))
	if e != api.OK {
		t.Fatal(int(e))
	}
	for i := range 20 {
		holdDo(t, h, get(n, element(i)), h, api.Out{Kind: 1, Found: true, Desc: usual(number(float64(i)))}, api.OK)
	}
	for _, size := range []int{20, 19, 7, 7, 30, 3, 0, 1024, 0} {
		after, out, e := exotic.Do(h, define(n, length, value(float64(size))))
		if e != api.OK || !out.Bool {
			t.Fatal(size, showOut(out), int(e))
		}
		holdLength(t, after, n, size, true, api.OK)
		if want := min(len(h.Objects[n].Props)-1, size); len(after.Objects[n].Props) != want+1 {
			t.Error(size, len(after.Objects[n].Props))
		}
		h = after
	}
}
