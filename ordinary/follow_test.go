package ordinary_test

import (
	"slices"
	"testing"

	"bailiff/api"
	"bailiff/desc"
	"bailiff/heap"
	"bailiff/ordinary"
	"bailiff/value"
)

// P12.5

// do asks what may be asked.
func do(t *testing.T, h api.Heap, a api.Ask) (api.Heap, api.Out) {
	t.Helper()
	after, out, e := ordinary.Do(h, a)
	if e != api.OK {
		t.Fatal(showAsk(a), int(e))
	}
	return after, out
}

// What was defined is told, in full and among the keys, and what was deleted is not.
func TestWhatWasDefinedIsTold(t *testing.T) {
	for _, n := range plains() {
		for _, k := range []api.Key{of("a"), of("b"), of("3"), of("q"), symbol(0), symbol(9)} {
			for _, d := range []api.Desc{{}, {Has: 1, Value: number(4)}, {Has: 34, Configurable: true, Writable: true}, usual(text("new")), both(callable(aFunc), undefined)} {
				h, out := do(t, house(), define(n, k, d))
				if !out.Bool {
					continue
				}
				holdTold(t, h, n, k, d)
				_, got := do(t, h, get(n, k))
				h, out = do(t, h, erase(n, k))
				if out.Bool != got.Desc.Configurable {
					t.Error(n, k, showOut(out))
				}
				if out.Bool {
					holdGone(t, h, n, k)
				}
			}
		}
	}
}

func holdTold(t *testing.T, h api.Heap, n int, k api.Key, d api.Desc) {
	t.Helper()
	_, got := do(t, h, get(n, k))
	_, l := do(t, h, keys(n))
	if !got.Found || !desc.Same(only(d.Has, got.Desc), d) || !slices.Contains(l.Keys, k) {
		t.Error(n, k, showDesc(d), showOut(got), showOut(l))
	}
}

func holdGone(t *testing.T, h api.Heap, n int, k api.Key) {
	t.Helper()
	_, got := do(t, h, get(n, k))
	_, l := do(t, h, keys(n))
	if got.Found || slices.Contains(l.Keys, k) {
		t.Error(n, k, showOut(got), showOut(l))
	}
}

// A long run of asks made by a short rule: what each object has told once about what cannot change stays so.
func TestARun(t *testing.T) {
	next, l := rule(3), partsOfHouse()
	tally := map[uint8]int{}
	for range 40 {
		h := house()
		for range 400 {
			a := anyAsk(next, l)
			after, out := do(t, h, a)
			if out.Bool {
				tally[a.Method]++
			}
			holdStep(t, h, a, after, out)
			if h = after; t.Failed() {
				return
			}
		}
	}
	for _, m := range []uint8{2, 3, 4, 6, 10} {
		if tally[m] < 100 {
			t.Error(m, tally)
		}
	}
}

// partsOfHouse are parts, the function in them being house's.
func partsOfHouse() []api.Desc {
	l := parts()
	for i := range l {
		for _, v := range []*api.Value{&l[i].Value, &l[i].Get, &l[i].Set} {
			if v.Kind == api.Maker {
				v.Ref = aFunction
			}
		}
	}
	return l
}

// anyAsk is one that may be in house.
func anyAsk(next func(n int) int, l []api.Desc) api.Ask {
	n := plains()[next(len(plains()))]
	k := []api.Key{of("a"), of("b"), of("1"), of("10"), of("q"), symbol(0), symbol(7)}[next(7)]
	switch i := next(20); {
	case i < 9:
		return define(n, k, l[next(len(l))])
	case i < 14:
		return erase(n, k)
	case i < 17:
		return setProto(n, append(values(), null)[next(houseSize+1)])
	case i == 17 && next(8) == 0:
		return prevent(n)
	case i == 17:
		return extensible(n)
	case i == 18:
		return keys(n)
	}
	return get(n, k)
}

// holdStep holds what a heap was and what it is behind an ask against what follows.
func holdStep(t *testing.T, h api.Heap, a api.Ask, after api.Heap, out api.Out) {
	t.Helper()
	wrong := func(what string) { t.Error(what, brief(h), showAsk(a), showOut(out), brief(after)) }
	if heap.Check(after) != api.OK {
		wrong("a heap that may not be")
	}
	was, is := h.Objects[a.Object], after.Objects[a.Object]
	rest, others := heap.Twin(h), heap.Twin(after)
	rest.Objects[a.Object], others.Objects[a.Object] = api.Object{}, api.Object{}
	if !heap.Same(rest, others) || is.Kind != was.Kind || is.Target != was.Target || is.Calls != was.Calls || is.Makes != was.Makes {
		wrong("another object, or another field")
	}
	if out.Kind != api.Done || out.Error != 0 || out.Text != "" {
		wrong("an outcome that is not one")
	}
	if !was.Ext && (is.Ext || is.Proto != was.Proto) {
		wrong("a closed object with another Ext, another Proto")
	}
	for _, p := range is.Props {
		if _, found := own(was, p.Key); !was.Ext && !found {
			wrong("a closed object with a new key")
		}
	}
	for _, p := range was.Props {
		if d, found := own(is, p.Key); !p.Desc.Configurable && (!found || turned(p.Desc, d)) {
			wrong("a property that is another one, or none")
		}
	}
	if a.Method == api.DefineOwnProperty && out.Bool {
		holdTold(t, after, a.Object, a.Key, a.Desc)
	}
	if a.Method == api.Delete && out.Bool {
		holdGone(t, after, a.Object, a.Key)
	}
}

func own(o api.Object, k api.Key) (api.Desc, bool) {
	for _, p := range o.Props {
		if p.Key == k {
			return p.Desc, true
		}
	}
	return api.Desc{}, false
}

// turned tells whether a property that is not configurable became what it must not.
func turned(was, is api.Desc) bool {
	if is.Configurable || is.Enumerable != was.Enumerable || is.Has != was.Has {
		return true
	}
	if was.Has == 60 {
		return is.Get != was.Get || is.Set != was.Set
	}
	return !was.Writable && (is.Writable || !value.Same(is.Value, was.Value))
}
