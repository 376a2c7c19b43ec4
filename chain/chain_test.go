package chain_test

import (
	"slices"
	"testing"

	"bailiff/api"
	"bailiff/chain"
	"bailiff/heap"
)

func TestExamples(t *testing.T) {
	h, n, e := chain.Make(two(), 0, 1)
	if n != 2 || e != api.OK {
		t.Fatal(n, int(e))
	}
	h, n, e = chain.Make(h, 2, 0)
	if n != 3 || e != api.OK {
		t.Fatal(n, int(e))
	}
	holdRead(t, h, 3, reading{down: []int{2, 0}, deep: 2, live: true})
	h, e = chain.Revoke(h, 2)
	if e != api.OK {
		t.Fatal(int(e))
	}
	holdRead(t, h, 3, reading{down: []int{2}, cut: true, deep: 2, live: true, arrayIs: api.ErrChain})
	holdRead(t, h, 2, reading{cut: true, deep: 1, arrayIs: api.ErrChain})
	holdMake(t, h, 2, 0, api.Heap{}, 0, api.ErrChain)
	holdMake(t, two(), 0, 5, api.Heap{}, 0, api.ErrArg)
	holdRevoke(t, two(), 0, api.Heap{}, api.ErrArg)
	holdRead(t, two(), 0, reading{})
}

// P14.1

// A proxy stands behind the others, and can do what its target can, whatever its handler can.
func TestMake(t *testing.T) {
	h := house()
	for _, c := range []struct {
		target, handler int
		want            api.Object
	}{
		{aPlain, aPlain, proxy(thing(aPlain), thing(aPlain))},
		{aPlain, aFunction, api.Object{Kind: 6, Proto: null, Target: thing(aPlain), Handler: maker(aFunction)}},
		{aFunction, aPlain, api.Object{Kind: 6, Proto: null, Target: maker(aFunction), Handler: thing(aPlain), Calls: true, Makes: true}},
		{aNative, aMaker, api.Object{Kind: 6, Proto: null, Target: callable(aNative), Handler: maker(aMaker), Calls: true}},
		{aMaker, aNative, api.Object{Kind: 6, Proto: null, Target: maker(aMaker), Handler: callable(aNative), Calls: true, Makes: true}},
		{anArray, aBoxed, proxy(thing(anArray), thing(aBoxed))},
		{aBoxed, anArray, proxy(thing(aBoxed), thing(anArray))},
		{revoker, lateRevoker, proxy(callable(revoker), maker(lateRevoker))},
		{ofArray, ofNative, proxy(thing(ofArray), callable(ofNative))},
		{ofNative, ofFunction, proxy(callable(ofNative), maker(ofFunction))},
		{ofFunction, ofArray, proxy(maker(ofFunction), thing(ofArray))},
		{ofGone, ofOfGone, proxy(thing(ofGone), thing(ofOfGone))}, // both are live, though they lead to what is revoked
		{ofGoneMaker, ofGone, proxy(maker(ofGoneMaker), thing(ofGone))},
		{third, third, proxy(thing(third), thing(third))},
		{aChild, otherArray, proxy(thing(aChild), thing(otherArray))},
	} {
		holdMake(t, h, c.target, c.handler, heapOf(append(house().Objects, c.want)...), houseSize, api.OK)
	}
}

func TestMakeOfRevoked(t *testing.T) {
	for _, n := range []int{gone, goneFunc, goneMaker} {
		for m := range houseSize {
			holdMake(t, house(), n, m, api.Heap{}, 0, api.ErrChain)
			holdMake(t, house(), m, n, api.Heap{}, 0, api.ErrChain)
		}
		for _, m := range []int{-1, houseSize} {
			holdMake(t, house(), n, m, api.Heap{}, 0, api.ErrArg)
			holdMake(t, house(), m, n, api.Heap{}, 0, api.ErrArg)
		}
	}
}

// The last object for which there is room is made; behind it none is. What is wrong with the two is told ahead of that.
func TestMakeOfMany(t *testing.T) {
	h := many(api.MaxObjects - 1)
	h.Objects[5] = revoked(api.Thing)
	h.Objects[6] = proxy(thing(5), thing(0))
	full := heapOf(append(slices.Clone(h.Objects), proxy(thing(6), thing(3000)))...)
	holdMake(t, h, 6, 3000, full, api.MaxObjects-1, api.OK)
	holdMake(t, full, 6, 3000, api.Heap{}, 0, api.ErrMany)
	holdMake(t, full, api.MaxObjects-1, 0, api.Heap{}, 0, api.ErrMany)
	holdMake(t, full, 5, 0, api.Heap{}, 0, api.ErrChain)
	holdMake(t, full, 0, 5, api.Heap{}, 0, api.ErrChain)
	holdMake(t, full, 0, api.MaxObjects, api.Heap{}, 0, api.ErrArg)
	holdMake(t, full, -1, 5, api.Heap{}, 0, api.ErrArg)
	want := heap.Twin(full)
	want.Objects[api.MaxObjects-1] = revoked(api.Thing)
	holdRevoke(t, full, api.MaxObjects-1, want, api.OK)
}

// How deep proxies stand in one another is no limit of Make.
func TestMakeOfDeep(t *testing.T) {
	for _, n := range []int{63, 64, 65, 66, 1000, api.MaxObjects - 2} {
		holdMake(t, tower(function(null), n), n, 0, tower(function(null), n+1), n+1, api.OK)
	}
}

// What it revokes has neither a target nor a handler then, and can do what it could.
func TestRevoke(t *testing.T) {
	for n := range houseSize {
		o := house().Objects[n]
		if o.Kind != 6 {
			holdRevoke(t, house(), n, api.Heap{}, api.ErrArg)
			continue
		}
		o.Target, o.Handler = null, null
		want := house()
		want.Objects[n] = o
		holdRevoke(t, house(), n, want, api.OK)
		holdRevoke(t, want, n, want, api.OK)
	}
	for _, n := range []int{gone, goneFunc, goneMaker} {
		holdRevoke(t, house(), n, house(), api.OK)
	}
	for _, n := range []int{revoker, lateRevoker} { // a native that revokes a proxy is none
		holdRevoke(t, house(), n, api.Heap{}, api.ErrArg)
	}
}

// P14.2, P14.3

func TestRows(t *testing.T) {
	none := reading{}
	isArray := reading{array: true}
	through := func(down ...int) reading { return reading{down: down, deep: len(down), live: true} }
	toArray := func(down ...int) reading {
		return reading{down: down, deep: len(down), live: true, array: true}
	}
	toGone := func(down ...int) reading {
		return reading{down: down, cut: true, deep: len(down) + 1, live: len(down) > 0, arrayIs: api.ErrChain}
	}
	for n, want := range map[int]reading{
		aPlain: none, aFunction: none, aNative: none, aMaker: none, aBoxed: none, aChild: none,
		revoker: none, lateRevoker: none, // what they revoke is not behind them
		anArray: isArray, otherArray: isArray,
		ofPlain: through(aPlain), ofFunction: through(aFunction), ofNative: through(aNative), ofMaker: through(aMaker), ofRevoker: through(revoker), ofChild: through(aChild), ofBoxed: through(aBoxed),
		ofArray: toArray(anArray), ofOfArray: toArray(ofArray, anArray), third: toArray(ofOfArray, ofArray, anArray), ofOther: toArray(otherArray),
		gone: toGone(), goneFunc: toGone(), goneMaker: toGone(),
		ofGone: toGone(gone), ofOfGone: toGone(ofGone, gone), ofGoneMaker: toGone(goneMaker),
	} {
		holdRead(t, house(), n, want)
	}
}

// falling are the numbers below n, from above.
func falling(n int) []int {
	var l []int
	for i := range n {
		l = append(l, n-1-i)
	}
	return l
}

// Arrays are seen through MaxChain proxies, and through no more; the others tell what is behind any number of them.
func TestTowers(t *testing.T) {
	const height = 70
	array, other, cut := tower(array(null, 0), height), tower(boxed(null, ""), height), tower(revoked(api.Maker), height)
	for n := range height + 1 {
		want := reading{down: falling(n), deep: n, live: n > 0}
		if n > 64 {
			want.arrayIs = api.ErrChain
		}
		holdRead(t, other, n, want)
		want.array = n <= 64
		holdRead(t, array, n, want)
		holdRead(t, cut, n, reading{down: falling(n), cut: true, deep: n + 1, live: n > 0, arrayIs: api.ErrChain})
	}
	top := api.MaxObjects - 1
	holdRead(t, tower(plain(null), top), top, reading{down: falling(top), deep: top, live: true, arrayIs: api.ErrChain})
}

// A revoked proxy ends the way wherever it stands: those above it see it, those below it do not.
func TestTowersWithAGap(t *testing.T) {
	const height = 67
	for gap := 1; gap <= height; gap++ {
		h, e := chain.Revoke(tower(array(null, 0), height), gap)
		if e != api.OK {
			t.Fatal(int(e))
		}
		for n := range height + 1 {
			if n < gap {
				holdRead(t, h, n, read(tower(array(null, 0), n), n))
				continue
			}
			down := falling(n)[:n-gap]
			holdRead(t, h, n, reading{down: down, cut: true, deep: len(down) + 1, live: n > gap, arrayIs: api.ErrChain})
		}
	}
}

// What a handler is, or leads to, counts for nothing.
func TestHandlersAreNotBehind(t *testing.T) {
	h := heapOf(plain(null), array(null, 0), proxy(thing(0), thing(1)), proxy(thing(1), thing(0)), proxy(thing(2), thing(3)), revoked(api.Thing), proxy(thing(3), thing(5)))
	holdRead(t, h, 2, reading{down: []int{0}, deep: 1, live: true})
	holdRead(t, h, 3, reading{down: []int{1}, deep: 1, live: true, array: true})
	holdRead(t, h, 4, reading{down: []int{2, 0}, deep: 2, live: true})
	holdRead(t, h, 6, reading{down: []int{3, 1}, deep: 2, live: true, array: true})
}
