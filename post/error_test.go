package post_test

import (
	"math"
	"slices"
	"testing"

	"bailiff/api"
	"bailiff/post"
)

// A fault is one thing that may not be, in all its shapes, each of which one can put into any claim of its method.
type fault struct {
	e     api.Errno
	spoil []func(c *claim)
}

func faultOf[T any](e api.Errno, l []T, field func(c *claim) *T) fault {
	f := fault{e: e}
	for _, x := range l {
		f.spoil = append(f.spoil, func(c *claim) { *field(c) = x })
	}
	return f
}

func askValue(c *claim) *api.Value    { return &c.ask.Value }
func answerValue(c *claim) *api.Value { return &c.answer.Value }
func factsProto(c *claim) *api.Value  { return &c.facts.Proto }
func askDesc(c *claim) *api.Desc      { return &c.ask.Desc }
func answerDesc(c *claim) *api.Desc   { return &c.answer.Desc }
func factsDesc(c *claim) *api.Desc    { return &c.facts.Desc }
func answerKeys(c *claim) *[]api.Key  { return &c.answer.Keys }
func factsKeys(c *claim) *[]api.Key   { return &c.facts.Keys }

// faults are what may not be of a method, in the order in which it is looked for.
func faults(method uint8) []fault {
	l := []fault{faultOf(api.ErrArg, []uint8{0, 2, 3, 4, 255}, func(c *claim) *uint8 { return &c.answer.Kind })}
	there := faultOf(api.ErrDesc, noWholes(), factsDesc)
	switch method {
	case api.GetPrototypeOf:
		return append(l, faultOf(api.ErrHeap, illValues(), answerValue), faultOf(api.ErrHeap, noParents(), factsProto))
	case api.SetPrototypeOf:
		return append(l, faultOf(api.ErrHeap, noParents(), askValue), faultOf(api.ErrHeap, noParents(), factsProto))
	case api.GetOwnProperty:
		return append(l, faultOf(api.ErrDesc, illDescs(), answerDesc), there)
	case api.DefineOwnProperty:
		return append(l, faultOf(api.ErrDesc, illDescs(), askDesc), there)
	case api.HasProperty, api.Delete:
		return append(l, there)
	case api.Get:
		return append(l, faultOf(api.ErrHeap, illValues(), answerValue), there)
	case api.Set:
		return append(l, faultOf(api.ErrHeap, illValues(), askValue), there)
	case api.OwnKeys:
		return append(l, faultyKeys()...)
	case api.Call, api.Construct:
		return append(l, faultOf(api.ErrHeap, illValues(), answerValue))
	}
	return l
}

// faultyKeys are those of ownKeys' lists. Each leaves to the others what is wrong by them.
func faultyKeys() []fault {
	lengthen := func(field func(c *claim) *[]api.Key, n int) func(c *claim) {
		return func(c *claim) { *field(c) = slices.Concat(many(n), *field(c)) }
	}
	return []fault{
		{api.ErrMany, []func(c *claim){lengthen(answerKeys, api.MaxProps), lengthen(answerKeys, 5000)}},
		{api.ErrHeap, illIn(answerKeys)},
		{api.ErrMany, []func(c *claim){lengthen(factsKeys, api.MaxProps), lengthen(factsKeys, 5000)}},
		{api.ErrHeap, illIn(factsKeys)},
		{api.ErrArg, []func(c *claim){
			func(c *claim) {
				c.facts.Keys = slices.Insert(slices.Clone(c.facts.Keys), 0, c.facts.Keys[0])
				c.facts.Own = slices.Insert(slices.Clone(c.facts.Own), 0, api.Desc{})
			},
			func(c *claim) {
				c.facts.Keys = append(slices.Clone(c.facts.Keys), keyOf("last"), keyOf("last"))
				c.facts.Own = append(slices.Clone(c.facts.Own), fixed(null), fixed(null))
			},
		}},
		{api.ErrArg, []func(c *claim){
			func(c *claim) { c.facts.Own = nil },
			func(c *claim) { c.facts.Own = slices.Clone(c.facts.Own[1:]) },
			func(c *claim) { c.facts.Own = append(slices.Clone(c.facts.Own), api.Desc{}) },
			func(c *claim) { c.facts.Own = slices.Repeat(c.facts.Own, 2000) },
		}},
		{api.ErrDesc, illOwn()},
	}
}

// illIn puts each key that may not be first, in the middle, and last.
func illIn(field func(c *claim) *[]api.Key) []func(c *claim) {
	var l []func(c *claim)
	for _, k := range illKeys() {
		for _, place := range []func(n int) int{first, middle, last} {
			l = append(l, func(c *claim) {
				keys := slices.Clone(*field(c))
				keys[place(len(keys))] = k
				*field(c) = keys
			})
		}
	}
	return l
}

// illOwn puts each descriptor that is neither zero nor complete first, in the middle, and last.
func illOwn() []func(c *claim) {
	var l []func(c *claim)
	for _, d := range noWholes() {
		if equalDesc(d, api.Desc{}) {
			continue // that one is zero
		}
		for _, place := range []func(n int) int{first, middle, last} {
			l = append(l, func(c *claim) {
				own := slices.Clone(c.facts.Own)
				own[place(len(own))] = d
				c.facts.Own = own
			})
		}
	}
	return l
}

func first(n int) int  { return 0 }
func middle(n int) int { return n / 2 }
func last(n int) int   { return n - 1 }

// bases are claims of a method that may be, well ones and lies, in which all that can count does.
func bases(method uint8) []claim {
	var l []claim
	for _, ext := range bools() {
		for _, b := range bools() {
			c := saying(method, b, post.Facts{Ext: ext, Proto: thing(3), Found: true, Desc: loose(number(1)), Keys: keysOf("a", "@", "0"), Own: []api.Desc{fixed(null), {}, loose(null)}})
			c.ask.Value, c.ask.Desc = thing(4), of(val(number(2)))
			c.answer.Value, c.answer.Found, c.answer.Desc, c.answer.Keys = maker(3), true, loose(null), keysOf("@", "b", "a")
			l = append(l, c)
			c.ask.Value, c.answer.Value, c.facts.Desc, c.answer.Keys = null, null, fixed(number(2)), keysOf("@", "0", "a")
			l = append(l, c)
		}
	}
	return l
}

// Each thing that may not be, in each of its shapes, whatever else is told.
func TestEachFault(t *testing.T) {
	for method := api.GetPrototypeOf; method <= api.Construct; method++ {
		for _, c := range bases(method) {
			out, well := again(c)
			holdCheck(t, c, out, well, api.OK)
			for _, f := range faults(method) {
				for _, spoil := range f.spoil {
					bad := c
					spoil(&bad)
					holdError(t, bad, f.e)
				}
			}
			if t.Failed() {
				return
			}
		}
	}
}

// Of two things that may not be the one is told that is looked for first.
func TestTwoFaults(t *testing.T) {
	for method := api.GetPrototypeOf; method <= api.Construct; method++ {
		c := bases(method)[0]
		l := faults(method)
		for i, f := range l {
			for _, behind := range l[i+1:] {
				eachPair(f.spoil, behind.spoil, func(spoil, other func(c *claim)) {
					bad := c
					other(&bad)
					spoil(&bad)
					holdError(t, bad, f.e)
				})
			}
		}
		if t.Failed() {
			return
		}
	}
}

// eachPair calls f with each of either list, beside the first and the last one of the other one.
func eachPair[T any](a, b []T, f func(x, y T)) {
	for _, x := range a {
		f(x, b[0])
		f(x, b[len(b)-1])
	}
	for _, y := range b {
		f(a[0], y)
		f(a[len(a)-1], y)
	}
}

// A method that there is not, or an answer that is none, is told ahead of all else.
func TestNoMethod(t *testing.T) {
	for _, c := range append(bases(0), junk(), claim{}) {
		for i := range 256 {
			c.ask.Method = uint8(i)
			if 1 <= i && i <= 13 {
				c.answer.Kind = api.Throw
			}
			holdError(t, c, api.ErrArg)
			c.answer.Kind = api.Fail
			holdError(t, c, api.ErrArg)
			c.answer.Kind = api.Done
		}
	}
}

// What stands just at a limit may be.
func TestLimits(t *testing.T) {
	full := many(api.MaxProps)
	facts := post.Facts{Keys: slices.Clone(full), Own: slices.Repeat([]api.Desc{fixed(number(1)), {}, loose(number(1)), {}}, api.MaxProps/4)}
	turned := slices.Clone(full)
	slices.Reverse(turned)
	holdWell(t, listing(turned, facts), api.Out{Keys: turned})
	holdLie(t, listing(full[1:], facts))
	holdLie(t, listing(full[:api.MaxProps-1], facts))
	holdLie(t, listing(append(slices.Clone(full[1:]), keyOf("other")), facts))
	holdLie(t, listing(append(slices.Clone(full[:api.MaxProps-1]), full[0]), facts))
	holdError(t, listing(append(slices.Clone(full), keyOf("other")), facts), api.ErrMany)
	facts.Ext = true
	holdWell(t, listing(append(slices.Clone(full[:api.MaxProps-1]), keyOf("other")), facts), api.Out{Keys: append(slices.Clone(full[:api.MaxProps-1]), keyOf("other"))})
	holdLie(t, listing(append(slices.Clone(full[1:]), keyOf("other")), facts))
	facts.Keys, facts.Own = many(api.MaxProps+1), append(facts.Own, api.Desc{})
	holdError(t, listing(full, facts), api.ErrMany)

	s := long(api.MaxString)
	longest := []api.Key{keyOf(s), symKey(math.MaxInt - 1), keyOf(s[1:])}
	facts = post.Facts{Keys: slices.Clone(longest), Own: []api.Desc{fixed(text(s)), fixed(symbol(math.MaxInt)), fixed(maker(math.MaxInt))}}
	holdWell(t, listing(longest, facts), api.Out{Keys: longest})
	holdLie(t, listing(longest[:2], facts))
	holdWell(t, telling(api.Get, text(s), one(false, fixed(text(s)))), api.Out{Value: text(s)})
	holdLie(t, telling(api.Get, text(s[1:]), one(false, fixed(text(s)))))
	holdWell(t, telling(api.GetPrototypeOf, thing(math.MaxInt), post.Facts{Proto: maker(math.MaxInt)}), api.Out{Value: thing(math.MaxInt)})
	for _, x := range []float64{most, -most} {
		holdWell(t, putting(api.Set, number(x), true, one(false, fixed(number(x)))), api.Out{Bool: true})
		holdLie(t, putting(api.Set, number(x), true, one(false, fixed(number(-x)))))
	}
}

// A minus nought is equal to 0, so that what has no other thing in it is zero, and tells that there is no property any more.
func TestMinusNought(t *testing.T) {
	nought := api.Value{Num: minus}
	for _, d := range []api.Desc{{}, {Value: nought}, {Get: nought}, {Set: nought}, {Value: nought, Get: nought, Set: nought}} {
		holdWell(t, listing(nil, post.Facts{Ext: true, Keys: keysOf("a"), Own: []api.Desc{d}}), api.Out{})
	}
	holdWell(t, telling(api.Get, boolean(minus), one(true, fixed(boolean(0)))), api.Out{Value: boolean(minus)})
	holdLie(t, telling(api.Get, boolean(1), one(true, fixed(boolean(minus)))))
}
