package desc_test

import (
	"fmt"
	"testing"

	"bailiff/api"
	"bailiff/desc"
	"bailiff/value"
)

// fields are a second reading of descriptors: what stands in the fields that are had, by their words.
type fields map[string]any

func words() []string {
	return []string{"value", "writable", "get", "set", "enumerable", "configurable"}
}

func read(d api.Desc) fields {
	f := fields{}
	for i, x := range []any{d.Value, d.Writable, d.Get, d.Set, d.Enumerable, d.Configurable} {
		if d.Has>>i&1 == 1 {
			f[words()[i]] = x
		}
	}
	return f
}

func made(f fields) api.Desc {
	d := api.Desc{}
	for i, w := range words() {
		if f.has(w) {
			d.Has |= 1 << i
		}
	}
	d.Value, _ = f["value"].(api.Value)
	d.Get, _ = f["get"].(api.Value)
	d.Set, _ = f["set"].(api.Value)
	d.Writable, _ = f["writable"].(bool)
	d.Enumerable, _ = f["enumerable"].(bool)
	d.Configurable, _ = f["configurable"].(bool)
	return d
}

func (f fields) has(word string) bool {
	_, is := f[word]
	return is
}

func (f fields) data() bool   { return f.has("value") || f.has("writable") }
func (f fields) access() bool { return f.has("get") || f.has("set") }

// named tells what is in the fields, two values that are the same alike.
func (f fields) named() []string {
	var l []string
	for _, w := range words() {
		if x, is := f[w]; is {
			l = append(l, w, name(x))
		}
	}
	return l
}

func name(x any) string {
	v, is := x.(api.Value)
	switch {
	case !is:
		return fmt.Sprint(x)
	case v.Kind > api.Symbol:
		return fmt.Sprint("object ", v.Ref)
	}
	return fmt.Sprintf("%d %v %q %d", v.Kind, v.Num, v.Str, v.Ref)
}

// is tells whether a field that both have is the same in both.
func (f fields) is(g fields, word string) bool { return name(f[word]) == name(g[word]) }

func completed(f fields) fields {
	out := fields{"enumerable": false, "configurable": false}
	if f.access() {
		out["get"], out["set"] = undefined, undefined
	} else {
		out["value"], out["writable"] = undefined, false
	}
	for w, x := range f {
		out[w] = x
	}
	return out
}

// may is a second reading of whether a property that is there may become so: the five rows, as they stand.
func may(d, now fields) bool {
	fixed := now["configurable"] == false
	plain := !d.data() && !d.access()
	switch {
	case fixed && d["configurable"] == true:
		return false
	case fixed && d.has("enumerable") && !d.is(now, "enumerable"):
		return false
	case fixed && !plain && (d.data() && now.access() || d.access() && now.data()):
		return false
	case now.data() && fixed && now["writable"] == false && d.data() && d["writable"] == true:
		return false
	case now.data() && fixed && now["writable"] == false && d.data() && d.has("value") && !d.is(now, "value"):
		return false
	case now.access() && fixed && d.access() && d.has("get") && !d.is(now, "get"):
		return false
	case now.access() && fixed && d.access() && d.has("set") && !d.is(now, "set"):
		return false
	}
	return true
}

// becomes is a second reading of what a property that is there becomes.
func becomes(d, now fields) fields {
	out := fields{}
	if d.data() && now.access() || d.access() && now.data() {
		out = completed(d)
		for _, w := range []string{"enumerable", "configurable"} {
			if !d.has(w) {
				out[w] = now[w]
			}
		}
		return out
	}
	for w, x := range now {
		out[w] = x
	}
	for w, x := range d {
		out[w] = x
	}
	return out
}

// hold holds both calls against what is asked of them.
func hold(t *testing.T, ext bool, d api.Desc, found bool, now, want api.Desc, is bool, e api.Errno) {
	t.Helper()
	if got, err := desc.Compatible(ext, d, found, now); got != is || err != e {
		t.Error("Compatible", ext, show(d), found, show(now), got, int(err))
	}
	if got, ok, err := desc.Apply(ext, d, found, now); !equal(got, want) || ok != is || err != e {
		t.Error("Apply", ext, show(d), found, show(now), show(got), ok, int(err))
	}
}

// P9.3

func TestExamplesOfCompatible(t *testing.T) {
	stuck := of(val(number(1)), write(false), enum(true), conf(false))
	for i, c := range []struct {
		ext   bool
		d     api.Desc
		found bool
		now   api.Desc
		is    bool
	}{
		{false, of(), false, of(), false}, {true, of(), false, of(), true},
		{true, of(val(number(2))), true, stuck, false}, {true, of(val(number(1))), true, stuck, true},
	} {
		if is, e := desc.Compatible(c.ext, c.d, c.found, c.now); is != c.is || e != api.OK {
			t.Error(i, is, int(e))
		}
	}
}

func TestExamplesOfApply(t *testing.T) {
	d, is, e := desc.Apply(true, of(get(callable(3))), true, desc.Data(number(1)))
	if !equal(d, accessOf(callable(3), undefined, true, true)) || !is || e != api.OK {
		t.Error(show(d), is, int(e))
	}
}

// The rows as the chapter has them: what one property that is stuck may become, and what not.
func TestRows(t *testing.T) {
	const yes, no = true, false
	one, f := number(1), callable(3)
	dead, free := dataOf(one, no, yes, no), dataOf(one, yes, no, no)
	doer := accessOf(f, undefined, yes, no)
	for i, c := range []struct {
		now, d, want api.Desc
		is           bool
	}{
		{dead, of(conf(yes)), of(), no}, {dead, of(conf(no)), dead, yes}, {free, of(conf(yes)), of(), no}, {doer, of(conf(yes)), of(), no}, {doer, of(conf(no)), doer, yes},
		{dead, of(enum(no)), of(), no}, {dead, of(enum(yes)), dead, yes}, {free, of(enum(yes)), of(), no}, {free, of(enum(no)), free, yes}, {doer, of(enum(no)), of(), no}, {doer, of(enum(yes)), doer, yes},
		{dead, of(get(undefined)), of(), no}, {dead, of(set(f)), of(), no}, {free, of(get(f)), of(), no}, {doer, of(val(undefined)), of(), no}, {doer, of(write(no)), of(), no},
		{dead, of(write(yes)), of(), no}, {dead, of(write(no)), dead, yes}, {dead, of(val(one), write(no)), dead, yes}, {dead, of(val(one), write(yes)), of(), no}, {dead, of(val(number(2)), write(no)), of(), no}, {dead, of(val(undefined)), of(), no}, {dead, of(val(boolean(1))), of(), no},
		{free, of(write(yes)), free, yes}, {free, of(write(no)), dataOf(one, no, no, no), yes}, {free, of(val(number(2))), dataOf(number(2), yes, no, no), yes}, {free, of(val(text("a")), write(no)), dataOf(text("a"), no, no, no), yes}, {free, of(val(number(2)), enum(yes)), of(), no}, {free, of(val(number(2)), conf(yes)), of(), no},
		{doer, of(get(f)), doer, yes}, {doer, of(get(callable(4))), of(), no}, {doer, of(get(undefined)), of(), no}, {doer, of(set(undefined)), doer, yes}, {doer, of(set(f)), of(), no}, {doer, of(get(f), set(undefined)), doer, yes}, {doer, of(get(f), set(f)), of(), no},
		{doer, of(get(maker(3))), accessOf(maker(3), undefined, yes, no), yes},
		{dataOf(number(nan), no, no, no), of(val(number(nan))), dataOf(number(nan), no, no, no), yes}, {dataOf(number(nan), no, no, no), of(val(one)), of(), no},
		{dataOf(thing(7), no, no, no), of(val(callable(7))), dataOf(callable(7), no, no, no), yes}, {dataOf(thing(7), no, no, no), of(val(thing(8))), of(), no},
		{dataOf(text("a"), no, no, no), of(val(text("a"))), dataOf(text("a"), no, no, no), yes}, {dataOf(text("a"), no, no, no), of(val(text("b"))), of(), no},
		{dataOf(one, no, no, yes), of(val(number(2)), write(yes), enum(yes), conf(no)), dataOf(number(2), yes, yes, no), yes}, {dataOf(one, no, no, yes), of(write(yes)), dataOf(one, yes, no, yes), yes},
		{dataOf(one, yes, no, yes), of(set(f)), accessOf(undefined, f, no, yes), yes}, {dataOf(one, yes, no, yes), of(get(f), enum(yes), conf(no)), accessOf(f, undefined, yes, no), yes},
		{accessOf(f, f, yes, yes), of(val(one)), dataOf(one, no, yes, yes), yes}, {accessOf(f, f, yes, yes), of(write(yes), conf(no)), dataOf(undefined, yes, yes, no), yes}, {accessOf(f, f, yes, yes), of(set(undefined)), accessOf(f, undefined, yes, yes), yes}, {accessOf(f, f, yes, yes), of(enum(no)), accessOf(f, f, no, yes), yes},
	} {
		for _, ext := range bools() {
			hold(t, ext, c.d, true, c.now, c.want, c.is, api.OK)
		}
		if t.Failed() {
			t.Fatal(i)
		}
	}
}

func TestWhereThereIsNone(t *testing.T) {
	junk := append(ill(), of(), of(val(number(1))), dataOf(number(1), false, false, false), accessOf(callable(3), callable(3), false, false))
	for i, d := range well() {
		for _, now := range []api.Desc{junk[i%len(junk)], {}, dataOf(number(1), false, false, false)} {
			hold(t, true, d, false, now, made(completed(read(d))), true, api.OK)
			hold(t, false, d, false, now, api.Desc{}, false, api.OK)
		}
	}
}

func TestWhereThereIsOne(t *testing.T) {
	yes, no := 0, 0
	for _, now := range wholes() {
		n := read(now)
		for i, d := range well() {
			f := read(d)
			is, want := may(f, n), api.Desc{}
			if is {
				want = made(becomes(f, n))
				yes++
			} else {
				no++
			}
			hold(t, i%2 == 0, d, true, now, want, is, api.OK)
		}
	}
	if yes < 1000 || no < 1000 {
		t.Error(yes, no)
	}
}

func TestApplyRefuses(t *testing.T) {
	for i, bad := range ill() {
		for _, good := range []api.Desc{dataOf(number(1), true, true, true), dataOf(number(1), false, false, false), accessOf(callable(3), undefined, false, true)} {
			for _, ext := range bools() {
				hold(t, ext, bad, true, good, api.Desc{}, false, api.ErrDesc)
				hold(t, ext, bad, false, good, api.Desc{}, false, api.ErrDesc)
				hold(t, ext, good, true, bad, api.Desc{}, false, api.ErrDesc)
				hold(t, ext, bad, true, bad, api.Desc{}, false, api.ErrDesc)
				hold(t, ext, bad, false, api.Desc{}, api.Desc{}, false, api.ErrDesc)
				hold(t, ext, api.Desc{}, true, bad, api.Desc{}, false, api.ErrDesc)
			}
		}
		if t.Failed() {
			t.Fatal(i)
		}
	}
}

// What is not complete is no property, even where it may be.
func TestApplyRefusesWhatIsNotComplete(t *testing.T) {
	n := 0
	for _, now := range well() {
		if now.Has == 51 || now.Has == 60 {
			continue
		}
		n++
		for _, d := range []api.Desc{{}, of(val(number(1))), now, dataOf(number(1), true, true, true)} {
			hold(t, true, d, true, now, api.Desc{}, false, api.ErrDesc)
			hold(t, false, d, true, now, api.Desc{}, false, api.ErrDesc)
		}
	}
	if n < 100 {
		t.Error(n)
	}
}

// A minus nought in a field that is not had is left behind.
func TestApplyLeavesMinusNoughtBehind(t *testing.T) {
	odd := api.Value{Num: minus}
	now := dataOf(number(1), true, true, true)
	now.Get = odd
	d := of(conf(false))
	d.Set = odd
	hold(t, true, d, true, now, dataOf(number(1), true, true, false), true, api.OK)
	hold(t, true, d, false, now, dataOf(undefined, false, false, false), true, api.OK)
}

// P9.6

// had is a descriptor with those of its fields alone that another one has.
func had(d, by api.Desc) api.Desc {
	f := read(d)
	for _, w := range words() {
		if !read(by).has(w) {
			delete(f, w)
		}
	}
	return made(f)
}

func complete(d api.Desc) bool {
	return desc.Check(d) == api.OK && (d.Has == 51 || d.Has == 60)
}

func TestWhatItBecomes(t *testing.T) {
	for _, now := range wholes() {
		for _, d := range well() {
			out, is, e := desc.Apply(false, d, true, now)
			if e != api.OK || !is {
				continue
			}
			if !complete(out) || !desc.Same(had(out, d), d) {
				t.Error(show(d), show(now), show(out))
			}
			if !now.Configurable {
				stays(t, d, now, out)
			}
		}
	}
	for _, d := range well() {
		if out, is, e := desc.Apply(true, d, false, api.Desc{}); !is || e != api.OK || !complete(out) || !desc.Same(had(out, d), d) {
			t.Error(show(d), show(out), is, int(e))
		}
	}
}

// stays holds what becomes of a property that is not configurable.
func stays(t *testing.T, d, now, out api.Desc) {
	t.Helper()
	if out.Configurable || out.Enumerable != now.Enumerable || out.Has != now.Has {
		t.Error(show(d), show(now), show(out))
	}
	dead := now.Has == 51 && !now.Writable
	if dead && (out.Writable || !value.Same(out.Value, now.Value)) {
		t.Error(show(d), show(now), show(out), "has another value")
	}
	if !value.Same(out.Get, now.Get) || !value.Same(out.Set, now.Set) {
		t.Error(show(d), show(now), show(out), "has other functions")
	}
}

func TestAppliedToItself(t *testing.T) {
	for _, now := range wholes() {
		for _, ext := range bools() {
			hold(t, ext, now, true, now, now, true, api.OK)
			hold(t, ext, api.Desc{}, true, now, now, true, api.OK)
		}
	}
}

func TestCompleteStays(t *testing.T) {
	for i, d := range wholes() {
		holdComplete(t, i, d, d)
	}
	for i, d := range well() {
		once, e := desc.Complete(d)
		if e != api.OK || !complete(once) {
			t.Error(i, show(d), show(once), int(e))
		}
		holdComplete(t, i, once, once)
	}
}

// What was applied once may be so again, and stays.
func TestAppliedAgain(t *testing.T) {
	for _, now := range wholes() {
		for _, d := range well() {
			if out, is, _ := desc.Apply(true, d, true, now); is {
				hold(t, false, d, true, out, out, true, api.OK)
			}
		}
	}
}
