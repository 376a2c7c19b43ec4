package post_test

import (
	"slices"
	"strings"

	"bailiff/api"
	"bailiff/post"
)

// each calls f with every claim of a method over few values, descriptors and keys, in which all that counts may be, and nothing else is told.
func each(method uint8, f func(c claim)) {
	c := claimOf(method)
	switch method {
	case api.GetPrototypeOf:
		eachValue(c, values(), func(c *claim) *api.Value { return &c.answer.Value }, func(c claim) {
			eachParent(c, f)
		})
	case api.SetPrototypeOf:
		eachValue(c, parents(), func(c *claim) *api.Value { return &c.ask.Value }, func(c claim) {
			eachBool(c, func(c claim) { eachParent(c, f) })
		})
	case api.IsExtensible, api.PreventExtensions:
		eachBool(c, func(c claim) { eachExt(c, f) })
	case api.GetOwnProperty:
		eachThere(c, func(c claim) { eachExt(c, func(c claim) { eachAnswer(c, f) }) })
	case api.DefineOwnProperty:
		eachThere(c, func(c claim) { eachExt(c, func(c claim) { eachBool(c, func(c claim) { eachDesc(c, f) }) }) })
	case api.HasProperty, api.Delete:
		eachThere(c, func(c claim) { eachExt(c, func(c claim) { eachBool(c, f) }) })
	case api.Get:
		eachValue(c, values(), func(c *claim) *api.Value { return &c.answer.Value }, func(c claim) { eachThere(c, f) })
	case api.Set:
		eachValue(c, values(), func(c *claim) *api.Value { return &c.ask.Value }, func(c claim) {
			eachBool(c, func(c claim) { eachThere(c, f) })
		})
	case api.OwnKeys:
		eachKeys(c, f)
	case api.Call, api.Construct:
		eachValue(c, values(), func(c *claim) *api.Value { return &c.answer.Value }, f)
	}
}

func eachValue(c claim, l []api.Value, field func(c *claim) *api.Value, f func(c claim)) {
	for _, v := range l {
		*field(&c) = v
		f(c)
	}
}

func eachParent(c claim, f func(c claim)) {
	eachValue(c, parents(), func(c *claim) *api.Value { return &c.facts.Proto }, func(c claim) { eachExt(c, f) })
}

func eachBool(c claim, f func(c claim)) {
	for _, b := range bools() {
		c.answer.Bool = b
		f(c)
	}
}

func eachExt(c claim, f func(c claim)) {
	for _, b := range bools() {
		c.facts.Ext = b
		f(c)
	}
}

func eachThere(c claim, f func(c claim)) {
	f(c)
	c.facts.Found = true
	for _, d := range wholes() {
		c.facts.Desc = d
		f(c)
	}
}

func eachAnswer(c claim, f func(c claim)) {
	f(c)
	c.answer.Found = true
	for _, d := range well() {
		c.answer.Desc = d
		f(c)
	}
}

func eachDesc(c claim, f func(c claim)) {
	for _, d := range well() {
		c.ask.Desc = d
		f(c)
	}
}

// lists are all lists of at most n of some things.
func lists[T any](things []T, n int) [][]T {
	l := [][]T{nil}
	if n == 0 {
		return l
	}
	for _, x := range things {
		for _, rest := range lists(things, n-1) {
			l = append(l, append([]T{x}, rest...))
		}
	}
	return l
}

// once tells whether no key stands in a list twice.
func once(l []api.Key) bool {
	for i, k := range l {
		if slices.Contains(l[i+1:], k) {
			return false
		}
	}
	return true
}

// eachKeys goes through all short lists of a few keys, told and there, with those that are there fixed, loose, or gone.
func eachKeys(c claim, f func(c claim)) {
	told := lists(keysOf("a", "b", "0", "@"), 3)
	for _, there := range lists(keysOf("a", "b", "@"), 3) {
		if !once(there) {
			continue
		}
		for _, own := range lists([]api.Desc{{}, fixed(number(1)), accessOf(undefined, undefined, true, true), accessOf(callable(3), undefined, true, false)}, len(there)) {
			if len(own) != len(there) {
				continue
			}
			for _, l := range told {
				c.answer.Keys, c.facts.Keys, c.facts.Own = l, there, own
				eachExt(c, f)
			}
		}
	}
}

// junk has in each field what may not be there, where it counts.
func junk() claim {
	return claim{
		ask:    api.Ask{Object: -7, Key: illKeys()[3], Desc: api.Desc{Has: 255}, Value: number(0.5), Receiver: thing(-1), Args: slices.Repeat(illValues(), 9)},
		answer: api.Out{Kind: api.Done, Value: number(minus), Found: true, Desc: api.Desc{Has: 5}, Keys: slices.Repeat(illKeys(), 300), Error: 77, Text: strings.Repeat("y", 5000)},
		facts:  post.Facts{Proto: text("no parent"), Found: true, Desc: api.Desc{Has: 1, Get: null}, Keys: slices.Repeat(illKeys(), 299), Own: illDescs()},
	}
}

// within is a claim with junk in all that counts for nothing, as the chapter's table tells it.
func within(c, j claim) claim {
	j.ask.Method = c.ask.Method
	j.answer.Bool, j.facts.Ext = !c.facts.Ext, !c.facts.Ext
	switch c.ask.Method {
	case api.GetPrototypeOf:
		j.answer.Value, j.facts.Ext, j.facts.Proto = c.answer.Value, c.facts.Ext, c.facts.Proto
	case api.SetPrototypeOf:
		j.ask.Value, j.answer.Bool, j.facts.Ext, j.facts.Proto = c.ask.Value, c.answer.Bool, c.facts.Ext, c.facts.Proto
	case api.IsExtensible, api.PreventExtensions:
		j.answer.Bool, j.facts.Ext = c.answer.Bool, c.facts.Ext
	case api.GetOwnProperty:
		j.answer.Found, j.facts.Found, j.facts.Ext = c.answer.Found, c.facts.Found, c.facts.Ext
	case api.DefineOwnProperty:
		j.ask.Desc, j.answer.Bool, j.facts.Found, j.facts.Ext = c.ask.Desc, c.answer.Bool, c.facts.Found, c.facts.Ext
	case api.HasProperty, api.Delete:
		j.answer.Bool, j.facts.Found, j.facts.Ext = c.answer.Bool, c.facts.Found, c.facts.Ext
	case api.Get:
		j.answer.Value, j.facts.Found = c.answer.Value, c.facts.Found
	case api.Set:
		j.ask.Value, j.answer.Bool, j.facts.Found = c.ask.Value, c.answer.Bool, c.facts.Found
	case api.OwnKeys:
		j.answer.Keys, j.facts.Ext, j.facts.Keys, j.facts.Own = c.answer.Keys, c.facts.Ext, c.facts.Keys, c.facts.Own
	case api.Call, api.Construct:
		j.answer.Value = c.answer.Value
	}
	if asksProperty(c.ask.Method) && c.facts.Found {
		j.facts.Desc = c.facts.Desc
	}
	if c.ask.Method == api.GetOwnProperty && c.answer.Found {
		j.answer.Desc = c.answer.Desc
	}
	return j
}

// asksProperty tells the methods of which it counts what property is there.
func asksProperty(method uint8) bool { return api.GetOwnProperty <= method && method <= api.Delete }
