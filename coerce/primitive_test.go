package coerce_test

import (
	"testing"

	"bailiff/api"
	"bailiff/coerce"
)

// P17.1: the ways to a primitive, by hand, by each hint, of each kind of object.

// hints are the hints, with the word and the methods that each leads to.
func hints() [][3]string {
	return [][3]string{{"default", "valueOf", "toString"}, {"number", "valueOf", "toString"}, {"string", "toString", "valueOf"}}
}

// primWays calls f with each Prim of an object.
func primWays(f func(s start, o api.Value, word, first, second string)) {
	for hint, h := range hints() {
		for _, o := range things() {
			f(start{coerce.Prim, uint8(hint), o, null}, o, h[0], h[1], h[2])
		}
	}
}

// funcs are values that can be called, and noFuncs such that can't.
func funcs() []api.Value { return []api.Value{callable(20), maker(21), callable(0)} }
func noFuncs() []api.Value {
	return []api.Value{boolean(false), boolean(true), number(0), number(20), number(nan), text(""), text("f"), symbol(0), symbol(20), thing(20), thing(0)}
}

func TestOwnWay(t *testing.T) {
	primWays(func(s start, o api.Value, word, first, second string) {
		for _, f := range funcs() {
			seek, call := turn{ownWay(o), val(f)}, callOf(f, o, text(word))
			for _, p := range plains() {
				holdTalk(t, s, []turn{seek, {call, val(p)}}, val(p))
			}
			for _, p := range append(things(), o) {
				holdTalk(t, s, []turn{seek, {call, val(p)}}, refused())
			}
			holdTalk(t, s, []turn{seek, {call, thrown(f)}}, thrown(f))
		}
		for _, f := range noFuncs() {
			holdTalk(t, s, []turn{{ownWay(o), val(f)}}, refused())
		}
		for _, v := range append(plains(), things()...) {
			holdTalk(t, s, []turn{{ownWay(o), thrown(v)}}, thrown(v))
		}
	})
}

// Without an own way: the first method.
func TestFirstMethod(t *testing.T) {
	primWays(func(s start, o api.Value, word, first, second string) {
		for _, no := range []api.Value{undefined, null} {
			for _, f := range funcs() {
				l := []turn{{ownWay(o), val(no)}, {getOf(o, first), val(f)}, {}}
				for _, p := range plains() {
					l[2] = turn{callOf(f, o), val(p)}
					holdTalk(t, s, l, val(p))
				}
				l[2] = turn{callOf(f, o), thrown(f)}
				holdTalk(t, s, l, thrown(f))
			}
			holdTalk(t, s, []turn{{ownWay(o), val(no)}, {getOf(o, first), thrown(no)}}, thrown(no))
		}
	})
}

// The second method, behind a first one that is none, and behind one that tells an object.
func TestSecondMethod(t *testing.T) {
	primWays(func(s start, o api.Value, word, first, second string) {
		var aheads [][]turn
		none := turn{ownWay(o), val(undefined)}
		for _, f := range []api.Value{undefined, null, boolean(false), number(20), text("f"), symbol(20), thing(20)} {
			aheads = append(aheads, []turn{none, {getOf(o, first), val(f)}})
		}
		for _, p := range append(things()[:3], o) {
			aheads = append(aheads, []turn{none, {getOf(o, first), val(maker(30))}, {callOf(maker(30), o), val(p)}})
		}
		for _, l := range aheads {
			add := func(more ...turn) []turn { return append(append([]turn{}, l...), more...) }
			for _, f := range funcs() {
				get, call := turn{getOf(o, second), val(f)}, callOf(f, o)
				for _, p := range plains() {
					holdTalk(t, s, add(get, turn{call, val(p)}), val(p))
				}
				for _, p := range things() {
					holdTalk(t, s, add(get, turn{call, val(p)}), refused())
				}
				holdTalk(t, s, add(get, turn{call, thrown(symbol(9))}), thrown(symbol(9)))
			}
			for _, f := range append(noFuncs(), undefined, null) {
				holdTalk(t, s, add(turn{getOf(o, second), val(f)}), refused())
			}
			holdTalk(t, s, add(turn{getOf(o, second), thrown(o)}), thrown(o))
		}
	})
}

// By which hint each kind goes.
func TestHints(t *testing.T) {
	for _, o := range things() {
		words := map[uint8]string{coerce.Number: "number", coerce.Text: "string", coerce.Key: "string", coerce.Like: "default", coerce.Less: "number", coerce.Add: "default"}
		ends := map[uint8]api.Value{coerce.Number: number(7), coerce.Text: text(" 7 "), coerce.Key: text(" 7 "), coerce.Like: boolean(true), coerce.Less: boolean(false), coerce.Add: text(" 7 7")}
		for kind, word := range words {
			first := "valueOf"
			if word == "string" {
				first = "toString"
			}
			for hint := range 256 { // it counts for nothing
				s := start{kind, uint8(hint), o, number(7)}
				holdTalk(t, s, []turn{{ownWay(o), val(maker(20))}, {callOf(maker(20), o, text(word)), val(text(" 7 "))}}, val(ends[kind]))
				holdTalk(t, s, []turn{{ownWay(o), val(null)}, {getOf(o, first), val(callable(20))}, {callOf(callable(20), o), val(text(" 7 "))}}, val(ends[kind]))
			}
		}
	}
}

// The first value's primitive comes ahead of the second one's; what is wrong with the first one, once both are there.
func TestOrderOfTwo(t *testing.T) {
	v, w := thing(3), callable(4)
	for _, kind := range []uint8{coerce.Less, coerce.Add} {
		word := map[uint8]string{coerce.Less: "number", coerce.Add: "default"}[kind]
		both := []turn{{ownWay(v), val(callable(7))}, {callOf(callable(7), v, text(word)), val(symbol(1))}, {ownWay(w), val(maker(8))}, {callOf(maker(8), w, text(word)), val(text("-0"))}}
		holdTalk(t, start{kind, 0, v, w}, both, refused())
		both[3].give = val(callable(4))
		holdTalk(t, start{kind, 0, v, w}, both, refused())
		both[3].give = thrown(null)
		holdTalk(t, start{kind, 0, v, w}, both, thrown(null))
		holdTalk(t, start{kind, 0, symbol(1), w}, both[2:], thrown(null))
		holdTalk(t, start{kind, 0, v, symbol(1)}, both[:2], refused())
		both[1].give = val(v)
		holdTalk(t, start{kind, 0, v, w}, both[:2], refused())
		// the same object twice is asked twice
		twice := []turn{{ownWay(v), val(undefined)}, {getOf(v, "valueOf"), val(callable(7))}, {callOf(callable(7), v), val(number(1))}, {ownWay(v), val(undefined)}, {getOf(v, "valueOf"), val(undefined)}, {getOf(v, "toString"), val(callable(7))}, {callOf(callable(7), v), val(number(2))}}
		end := map[uint8]api.Value{coerce.Less: boolean(true), coerce.Add: number(3)}[kind]
		holdTalk(t, start{kind, 0, v, v}, twice, val(end))
	}
}

// == of an object and another value: the object's primitive, wherever it stands, but not where the other one is undefined or null.
func TestLikeOfObject(t *testing.T) {
	for _, o := range things() {
		for _, v := range []api.Value{boolean(true), number(1), text("1"), text(" 1"), symbol(1)} {
			for _, p := range []api.Value{undefined, null, boolean(false), boolean(true), number(1), number(2), number(nan), text("1"), text("-0"), symbol(1), symbol(2)} {
				l := []turn{{ownWay(o), val(callable(7))}, {callOf(callable(7), o, text("default")), val(p)}}
				end := plainly(start{coerce.Like, 0, p, v})
				holdTalk(t, start{coerce.Like, 0, o, v}, l, end)
				holdTalk(t, start{coerce.Like, 0, v, o}, l, end)
			}
			holdTalk(t, start{coerce.Like, 0, v, o}, []turn{{ownWay(o), thrown(v)}}, thrown(v))
		}
	}
}
