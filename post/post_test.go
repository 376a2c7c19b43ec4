package post_test

import (
	"strings"
	"testing"

	"bailiff/api"
	"bailiff/post"
)

// holdCheck holds Check against what it should answer.
func holdCheck(t *testing.T, c claim, want api.Out, well bool, e api.Errno) {
	t.Helper()
	if out, is, err := post.Check(c.ask, c.answer, c.facts); !equal(out, want) || is != well || err != e {
		t.Error(c.show(), "gives", showOut(out), is, int(err), "and not", showOut(want), well, int(e))
	}
}

// holdWell holds that an answer is delivered so.
func holdWell(t *testing.T, c claim, want api.Out) {
	t.Helper()
	want.Kind = api.Done
	holdCheck(t, c, want, true, api.OK)
}

// holdLie holds that an answer is refused.
func holdLie(t *testing.T, c claim) {
	t.Helper()
	holdCheck(t, c, api.Out{}, false, api.OK)
}

// holdError holds that a claim is one that may not be.
func holdError(t *testing.T, c claim, e api.Errno) {
	t.Helper()
	holdCheck(t, c, api.Out{}, false, e)
}

// holdRow holds that an answer is delivered as it is, or refused.
func holdRow(t *testing.T, c claim, well bool) {
	t.Helper()
	if !well {
		holdLie(t, c)
		return
	}
	holdWell(t, c, delivered(c.ask.Method, c.answer))
}

// saying is a claim of an answer of yes or no; telling of a value; listing of keys.
func saying(method uint8, b bool, f post.Facts) claim {
	c := claimOf(method)
	c.answer.Bool, c.facts = b, f
	return c
}

func telling(method uint8, v api.Value, f post.Facts) claim {
	c := claimOf(method)
	c.answer.Value, c.facts = v, f
	return c
}

func listing(l []api.Key, f post.Facts) claim {
	c := claimOf(api.OwnKeys)
	c.answer.Keys, c.facts = l, f
	return c
}

// missing is a claim that getOwnPropertyDescriptor answered undefined; describing that it answered d.
func missing(f post.Facts) claim {
	c := claimOf(api.GetOwnProperty)
	c.facts = f
	return c
}

func describing(d api.Desc, f post.Facts) claim {
	c := missing(f)
	c.answer.Found, c.answer.Desc = true, d
	return c
}

// putting is a claim of an answer to setPrototypeOf, or set, of a value; defining to defineProperty.
func putting(method uint8, v api.Value, b bool, f post.Facts) claim {
	c := saying(method, b, f)
	c.ask.Value = v
	return c
}

func defining(d api.Desc, b bool, f post.Facts) claim {
	c := saying(api.DefineOwnProperty, b, f)
	c.ask.Desc = d
	return c
}

// none are facts of no such property; one of that.
func none(ext bool) post.Facts            { return post.Facts{Ext: ext} }
func one(ext bool, d api.Desc) post.Facts { return post.Facts{Ext: ext, Found: true, Desc: d} }

// own are facts of keys, in the order of their letters all fixed (f), loose (l), or gone (g).
func own(ext bool, kinds string, l ...string) post.Facts {
	f := post.Facts{Ext: ext, Keys: keysOf(l...)}
	for _, k := range kinds {
		d := api.Desc{}
		switch k {
		case 'f':
			d = fixed(number(1))
		case 'l':
			d = loose(number(1))
		}
		f.Own = append(f.Own, d)
	}
	return f
}

func TestExamples(t *testing.T) {
	holdLie(t, saying(api.IsExtensible, true, none(false)))
	holdWell(t, telling(api.GetPrototypeOf, null, post.Facts{Ext: true, Proto: thing(0)}), api.Out{Value: null})
	holdLie(t, telling(api.GetPrototypeOf, null, post.Facts{Proto: thing(0)}))
	holdLie(t, missing(one(true, fixed(number(1)))))
	holdLie(t, describing(of(val(number(1))), none(true)))
	holdLie(t, listing(keysOf("a", "a"), own(true, "")))
	holdLie(t, listing(keysOf("a"), own(true, "lf", "a", "b")))
	holdWell(t, listing(keysOf("a", "b"), own(true, "l", "a")), api.Out{Keys: keysOf("a", "b")})
	holdLie(t, telling(api.Construct, number(1), none(true)))
	holdError(t, telling(14, thing(1), none(true)), api.ErrArg)
}

// P15.1, sentence by sentence

func TestGetPrototypeOf(t *testing.T) {
	for _, v := range values() {
		leads := v.Kind == api.Null || v.Kind >= api.Thing
		holdRow(t, telling(api.GetPrototypeOf, v, post.Facts{Ext: true, Proto: thing(9)}), leads)
		holdRow(t, telling(api.GetPrototypeOf, v, post.Facts{Ext: false, Proto: thing(9)}), false)
	}
	for _, proto := range []api.Value{thing(3), callable(3), maker(3)} { // one object, whatever its value tells that it can do
		for _, v := range []api.Value{thing(3), callable(3), maker(3)} {
			holdWell(t, telling(api.GetPrototypeOf, v, post.Facts{Proto: proto}), api.Out{Value: v})
		}
		for _, v := range []api.Value{null, thing(4), thing(2), maker(4), symbol(3), number(3)} {
			holdLie(t, telling(api.GetPrototypeOf, v, post.Facts{Proto: proto}))
		}
	}
	holdWell(t, telling(api.GetPrototypeOf, null, post.Facts{Proto: null}), api.Out{Value: null})
	holdLie(t, telling(api.GetPrototypeOf, thing(0), post.Facts{Proto: null}))
	holdLie(t, telling(api.GetPrototypeOf, undefined, post.Facts{Proto: null}))
}

func TestSetPrototypeOf(t *testing.T) {
	for _, proto := range []api.Value{null, thing(3), maker(3)} {
		for _, v := range []api.Value{null, thing(3), callable(3), maker(3), thing(4)} {
			same := (v == null) == (proto == null) && v != thing(4)
			holdRow(t, putting(api.SetPrototypeOf, v, false, post.Facts{Ext: false, Proto: proto}), true)
			holdRow(t, putting(api.SetPrototypeOf, v, false, post.Facts{Ext: true, Proto: proto}), true)
			holdRow(t, putting(api.SetPrototypeOf, v, true, post.Facts{Ext: true, Proto: proto}), true)
			holdRow(t, putting(api.SetPrototypeOf, v, true, post.Facts{Ext: false, Proto: proto}), same)
		}
	}
}

func TestExtensions(t *testing.T) {
	for _, ext := range bools() {
		for _, b := range bools() {
			holdRow(t, saying(api.IsExtensible, b, none(ext)), b == ext)
		}
	}
	holdWell(t, saying(api.PreventExtensions, false, none(false)), api.Out{})
	holdWell(t, saying(api.PreventExtensions, false, none(true)), api.Out{})
	holdWell(t, saying(api.PreventExtensions, true, none(false)), api.Out{Bool: true})
	holdLie(t, saying(api.PreventExtensions, true, none(true)))
}

// What is not there may be told of none, and of a loose one of an object that takes new ones: has, deleteProperty and getOwnPropertyDescriptor all tell it.
func TestSaidToBeNone(t *testing.T) {
	for _, row := range []struct {
		facts post.Facts
		well  bool
	}{
		{none(true), true}, {none(false), true},
		{one(true, loose(number(1))), true}, {one(false, loose(number(1))), false},
		{one(true, fixed(number(1))), false}, {one(false, fixed(number(1))), false},
		{one(true, dataOf(number(1), true, true, false)), false}, {one(true, dataOf(number(1), false, false, true)), true},
		{one(true, accessOf(callable(3), undefined, true, false)), false}, {one(true, accessOf(undefined, undefined, false, true)), true}, {one(false, accessOf(undefined, undefined, false, true)), false},
	} {
		holdRow(t, missing(row.facts), row.well)
		holdRow(t, saying(api.HasProperty, false, row.facts), row.well)
		holdRow(t, saying(api.HasProperty, true, row.facts), true)
		holdRow(t, saying(api.Delete, true, row.facts), row.well)
		holdRow(t, saying(api.Delete, false, row.facts), true)
	}
}

func TestGetOwnProperty(t *testing.T) {
	free := dataOf(number(1), true, false, false) // fixed, but its value
	access := accessOf(callable(3), undefined, true, false)
	for _, row := range []struct {
		d     api.Desc
		facts post.Facts
		well  bool
	}{
		// what is there may not become so
		{loose(number(1)), none(true), true}, {loose(number(1)), none(false), false}, {of(conf(true)), none(true), true},
		{fixed(number(1)), one(true, fixed(number(1))), true}, {fixed(number(1)), one(false, fixed(number(1))), true},
		{fixed(number(2)), one(true, fixed(number(1))), false}, {fixed(number(nan)), one(true, fixed(number(nan))), true}, {fixed(maker(3)), one(true, fixed(thing(3))), true},
		{of(val(number(1))), one(true, fixed(number(1))), true}, {of(), one(true, fixed(undefined)), true}, {of(), one(true, fixed(number(1))), false},
		{loose(number(1)), one(true, fixed(number(1))), false}, {dataOf(number(1), false, true, false), one(true, fixed(number(1))), false}, {free, one(true, fixed(number(1))), false},
		{loose(number(2)), one(true, loose(number(1))), true}, {loose(number(2)), one(false, loose(number(1))), true}, {accessOf(undefined, callable(3), true, true), one(false, loose(number(1))), true},
		{access, one(true, access), true}, {of(get(callable(3)), enum(true)), one(true, access), true}, {of(get(callable(4)), enum(true)), one(true, access), false},
		{of(get(callable(3)), set(callable(3)), enum(true)), one(true, access), false}, {of(enum(true)), one(true, access), false}, {access, one(true, fixed(number(1))), false},
		// not configurable, where none is there, or a configurable one
		{fixed(number(1)), none(true), false}, {of(), none(true), false}, {of(conf(false)), none(true), false}, {access, none(true), false},
		{of(val(number(1)), write(true)), one(true, loose(number(1))), false}, {fixed(number(1)), one(true, dataOf(number(1), false, false, true)), false}, {access, one(true, accessOf(callable(3), undefined, true, true)), false},
		// not configurable, and not writable, where what is there is writable
		{free, one(true, free), true}, {dataOf(number(2), true, false, false), one(true, free), true}, {of(write(true)), one(false, free), true},
		{fixed(number(1)), one(true, free), false}, {of(val(number(1))), one(true, free), false}, {of(), one(true, free), false},
	} {
		holdRow(t, describing(row.d, row.facts), row.well)
	}
	holdWell(t, describing(of(val(text("x")), conf(true)), none(true)), api.Out{Found: true, Desc: dataOf(text("x"), false, false, true)})
	holdWell(t, describing(of(conf(true), set(callable(7))), one(true, loose(null))), api.Out{Found: true, Desc: accessOf(undefined, callable(7), false, true)})
	holdWell(t, describing(of(enum(true)), one(true, dataOf(undefined, false, true, false))), api.Out{Found: true, Desc: dataOf(undefined, false, true, false)})
	holdWell(t, missing(none(false)), api.Out{})
}

func TestDefineOwnProperty(t *testing.T) {
	free := dataOf(number(1), true, false, false)
	access := accessOf(callable(3), undefined, true, false)
	for _, row := range []struct {
		d     api.Desc
		facts post.Facts
		well  bool
	}{
		// none is there
		{of(), none(true), true}, {of(), none(false), false}, {of(conf(true)), none(true), true}, {of(conf(true)), none(false), false},
		{of(conf(false)), none(true), false}, {fixed(number(1)), none(true), false}, {of(val(number(1))), none(true), true}, {access, none(true), false},
		// what is there may not become so
		{of(), one(false, fixed(number(1))), true}, {of(val(number(1))), one(true, fixed(number(1))), true}, {of(val(number(2))), one(true, fixed(number(1))), false}, {of(val(callable(3))), one(true, fixed(maker(3))), true},
		{of(write(true)), one(true, fixed(number(1))), false}, {of(enum(true)), one(true, fixed(number(1))), false}, {of(conf(true)), one(true, fixed(number(1))), false}, {of(get(undefined)), one(true, fixed(number(1))), false},
		{of(val(number(2))), one(true, free), true}, {of(get(callable(3))), one(true, access), true}, {of(get(callable(4))), one(true, access), false}, {of(set(undefined)), one(true, access), true}, {of(write(false)), one(true, access), false},
		{of(val(number(2)), write(false)), one(false, loose(number(1))), true}, {of(get(callable(4))), one(false, loose(number(1))), true},
		// it is fixing, and what is there is configurable
		{of(conf(false)), one(true, loose(number(1))), false}, {fixed(number(1)), one(true, loose(number(1))), false}, {of(conf(false)), one(true, accessOf(callable(3), undefined, true, true)), false}, {of(conf(true)), one(true, loose(number(1))), true},
		{of(conf(false)), one(true, fixed(number(1))), true}, {of(conf(false)), one(true, access), true}, {of(conf(false)), one(true, free), true},
		// what is there is fixed, but its value, and is to be fixed whole
		{of(write(false)), one(true, free), false}, {fixed(number(1)), one(true, free), false}, {of(write(true)), one(true, free), true}, {of(write(false)), one(true, fixed(number(1))), true},
		{of(write(false)), one(true, dataOf(number(1), true, false, true)), true},
	} {
		holdRow(t, defining(row.d, true, row.facts), row.well)
		holdWell(t, defining(row.d, false, row.facts), api.Out{})
	}
}

func TestGet(t *testing.T) {
	for _, v := range values() {
		// Of a property that can still change anything may be told; so of one whose Get is called.
		for _, f := range []post.Facts{none(false), one(false, loose(number(9))), one(true, dataOf(number(9), false, false, true)), one(true, dataOf(number(9), true, false, false)), one(true, accessOf(undefined, undefined, false, true)), one(true, accessOf(callable(3), undefined, false, false))} {
			holdWell(t, telling(api.Get, v, f), api.Out{Value: v})
		}
		holdRow(t, telling(api.Get, v, one(true, fixed(thing(3)))), v.Kind >= api.Thing && v.Ref == 3)
		holdRow(t, telling(api.Get, v, one(true, fixed(number(1)))), v == number(1))
		holdRow(t, telling(api.Get, v, one(true, fixed(number(nan)))), v.Num != v.Num)
		holdRow(t, telling(api.Get, v, one(true, fixed(undefined))), v == undefined)
		holdRow(t, telling(api.Get, v, one(true, accessOf(undefined, callable(3), true, false))), v == undefined)
	}
}

func TestSet(t *testing.T) {
	for _, v := range values() {
		for _, f := range []post.Facts{none(false), one(false, loose(number(9))), one(true, dataOf(number(9), false, false, true)), one(true, dataOf(number(9), true, false, false)), one(true, accessOf(undefined, undefined, false, true)), one(true, accessOf(undefined, callable(3), false, false))} {
			holdWell(t, putting(api.Set, v, true, f), api.Out{Bool: true})
			holdWell(t, putting(api.Set, v, false, f), api.Out{})
		}
		for _, row := range []struct {
			d    api.Desc
			well bool
		}{
			{fixed(thing(3)), v.Kind >= api.Thing && v.Ref == 3}, {fixed(number(1)), v == number(1)}, {fixed(number(nan)), v.Num != v.Num}, {fixed(undefined), v == undefined},
			{accessOf(callable(3), undefined, true, false), false}, {accessOf(undefined, undefined, false, false), false},
		} {
			holdRow(t, putting(api.Set, v, true, one(true, row.d)), row.well)
			holdWell(t, putting(api.Set, v, false, one(true, row.d)), api.Out{})
		}
	}
}

func TestOwnKeys(t *testing.T) {
	for _, row := range []struct {
		told  string
		facts post.Facts
		well  bool
	}{
		{"", own(true, ""), true}, {"", own(false, ""), true}, {"a", own(true, ""), true}, {"a", own(false, ""), false},
		// a key twice
		{"a a", own(true, ""), false}, {"a b @ a", own(true, ""), false}, {"@ @", own(true, ""), false}, {"a b b", own(false, "ff", "a", "b"), false}, {"@ @@ 0 a", own(true, ""), true},
		// those that can't go must be told
		{"a", own(true, "f", "a"), true}, {"b", own(true, "f", "a"), false}, {"", own(true, "f", "a"), false}, {"b", own(true, "l", "a"), true}, {"", own(true, "l", "a"), true}, {"", own(true, "g", "a"), true},
		{"b a", own(true, "lf", "a", "b"), true}, {"x b y", own(true, "lfg", "a", "b", "c"), true}, {"x a c", own(true, "lfg", "a", "b", "c"), false}, {"b", own(true, "fff", "a", "b", "@"), false}, {"@ b a", own(true, "fff", "a", "b", "@"), true},
		{"@", own(true, "f", "@"), true}, {"@@", own(true, "f", "@"), false},
		// of an object that takes no new ones just the keys that are there
		{"a", own(false, "f", "a"), true}, {"a", own(false, "l", "a"), true}, {"a", own(false, "g", "a"), true}, {"", own(false, "l", "a"), false}, {"", own(false, "g", "a"), false}, {"", own(false, "f", "a"), false},
		{"b a", own(false, "lf", "a", "b"), true}, {"a b c", own(false, "lf", "a", "b"), false}, {"b", own(false, "lf", "a", "b"), false}, {"b c", own(false, "lf", "a", "b"), false}, {"c b a", own(false, "lgl", "a", "b", "c"), true}, {"c b x", own(false, "lgl", "a", "b", "c"), false},
	} {
		holdRow(t, listing(keysOf(strings.Fields(row.told)...), row.facts), row.well)
	}
	// They are delivered in the order in which they were told, which is none in which an object tells its own.
	holdWell(t, listing(keysOf("@", "b", "2", "1", "a"), own(false, "lllll", "1", "2", "a", "b", "@")), api.Out{Keys: keysOf("@", "b", "2", "1", "a")})
}

func TestCalls(t *testing.T) {
	for _, v := range values() {
		holdWell(t, telling(api.Call, v, none(false)), api.Out{Value: v})
		holdRow(t, telling(api.Construct, v, none(false)), v.Kind >= api.Thing)
	}
}

// P15.2

func TestNames(t *testing.T) {
	names := strings.Fields("getPrototypeOf setPrototypeOf isExtensible preventExtensions getOwnPropertyDescriptor defineProperty has get set deleteProperty ownKeys apply construct")
	for i := range 256 {
		want := ""
		if 1 <= i && i <= 13 {
			want = names[i-1]
		}
		if s := post.Name(uint8(i)); s != want {
			t.Error(i, s)
		}
	}
	for i, s := range names {
		if m, is := post.Method(s); int(m) != i+1 || !is {
			t.Error(s, m, is)
		}
		for _, other := range []string{strings.ToUpper(s), strings.ToLower(s) + "_", " " + s, s + " ", s + "\x00", s[1:], s[:len(s)-1] + "X", s + s} {
			if m, is := post.Method(other); m != 0 || is {
				t.Error(other, m, is)
			}
		}
	}
	for _, s := range []string{"", "?", "call", "delete", "keys", "getOwnProperty", "defineOwnProperty", "hasProperty", "GetPrototypeOf", "getprototypeof", "\xff", long(1 << 16)} {
		if m, is := post.Method(s); m != 0 || is {
			t.Error(s, m, is)
		}
	}
}
