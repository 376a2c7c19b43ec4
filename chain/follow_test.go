package chain_test

import (
	"slices"
	"testing"

	"bailiff/api"
	"bailiff/chain"
	"bailiff/heap"
)

// P14.5

// A view is what the four tell of all objects of a heap.
type view []reading

func look(t *testing.T, h api.Heap) view {
	t.Helper()
	var out view
	for n := range h.Objects {
		var r reading
		var e [3]api.Errno
		r.down, r.cut, e[0] = chain.Down(h, n)
		r.deep, e[1] = chain.Deep(h, n)
		r.live, e[2] = chain.Live(h, n)
		r.array, r.arrayIs = chain.IsArray(h, n)
		if e != [3]api.Errno{} {
			t.Fatal(brief(h), n, e)
		}
		out = append(out, r)
	}
	return out
}

func alike(a, b reading) bool {
	return slices.Equal(a.down, b.down) && a.cut == b.cut && a.deep == b.deep && a.live == b.live && a.array == b.array && a.arrayIs == b.arrayIs
}

// A long run of proxies made and revoked by a short rule.
func TestARun(t *testing.T) {
	next := rule(3)
	most, revokes, cuts := 0, 0, 0
	for range 10 {
		h := house()
		was := look(t, h)
		for len(h.Objects) < houseSize+70 && !t.Failed() {
			n := len(h.Objects) - 1 - next(3)
			if next(9) > 0 {
				h, was = makeOne(t, h, was, n, next(len(h.Objects)))
			} else {
				n = next(len(h.Objects))
				revokes++
				h, was = revokeOne(t, h, was, n)
			}
		}
		for _, r := range was {
			most = max(most, r.deep)
			if r.cut && len(r.down) > 1 {
				cuts++
			}
		}
	}
	if most < 10 || revokes < 60 || cuts < 60 {
		t.Error(most, revokes, cuts)
	}
}

// makeOne makes a proxy, holds what follows, and tells what is there then.
func makeOne(t *testing.T, h api.Heap, was view, target, handler int) (api.Heap, view) {
	t.Helper()
	after, n, e := chain.Make(h, target, handler)
	if e != api.OK {
		if e != api.ErrChain || !isGone(h, target) && !isGone(h, handler) {
			t.Error(brief(h), target, handler, int(e))
		}
		return h, was
	}
	is := look(t, after)
	r, of := is[n], was[target]
	if !r.live || r.deep != of.deep+1 || !slices.Equal(r.down, append([]int{target}, of.down...)) || r.cut != of.cut {
		t.Error("made", brief(after), n, r)
	}
	if r.deep <= api.MaxChain && (r.array != of.array || r.arrayIs != of.arrayIs) {
		t.Error("an array, or not, as its target", brief(after), n, r)
	}
	if n != len(h.Objects) || len(is) != n+1 || !heap.Same(heapOf(after.Objects[:n]...), h) || !slices.EqualFunc(is[:n], was, alike) || heap.Check(after) != api.OK {
		t.Error("another object", brief(h), brief(after))
	}
	return after, is
}

// revokeOne revokes a proxy, holds what follows, and tells what is there then.
func revokeOne(t *testing.T, h api.Heap, was view, n int) (api.Heap, view) {
	t.Helper()
	after, e := chain.Revoke(h, n)
	if e != api.OK {
		if e != api.ErrArg || h.Objects[n].Kind == api.Proxy {
			t.Error(brief(h), n, int(e))
		}
		return h, was
	}
	is := look(t, after)
	for m, r := range is {
		place := slices.Index(was[m].down, n)
		switch {
		case m == n && (r.live || len(r.down) != 0 || !r.cut):
			t.Error("revoked", brief(after), n, r)
		case m == n:
		case place < 0 && !alike(r, was[m]):
			t.Error("what does not lead to it", brief(after), n, m, r)
		case place >= 0 && (!r.cut || !r.live || !slices.Equal(r.down, was[m].down[:place+1]) || r.arrayIs != api.ErrChain):
			t.Error("what leads to it", brief(after), n, m, r)
		}
	}
	rest, others := heap.Twin(h), heap.Twin(after)
	if value(rest, n) != value(others, n) {
		t.Error("what it can do", brief(after), n)
	}
	rest.Objects[n], others.Objects[n] = api.Object{}, api.Object{}
	if !heap.Same(rest, others) || heap.Check(after) != api.OK {
		t.Error("another object", brief(h), brief(after))
	}
	again, e := chain.Revoke(after, n)
	if e != api.OK || !heap.Same(again, after) {
		t.Error("revoked twice", brief(again), int(e))
	}
	return after, is
}

// Whatever order they are revoked in, all that leads to any of them is cut.
func TestAllRevoked(t *testing.T) {
	h := house()
	was := look(t, h)
	for _, n := range []int{third, ofGone, ofArray, ofFunction, ofOfArray, ofRevoker, ofNative, ofPlain, ofGoneMaker, ofOfGone, ofOther, ofChild, ofBoxed, ofMaker} {
		h, was = revokeOne(t, h, was, n)
	}
	for n, r := range was {
		if is := h.Objects[n].Kind == api.Proxy; r.live || r.cut != is || (r.deep == 1) != is {
			t.Error(n, r)
		}
	}
}
