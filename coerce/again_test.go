package coerce_test

import (
	"fmt"
	"math"
	"math/big"
	"strings"
	"testing"

	"bailiff/api"
	"bailiff/coerce"
)

// P17.1 once more: coercions as the language that one knows tells them, each a function that runs from its beginning to its end, against every path through a Task.

// A host is asked for what is wanted. What comes of that, give tells.
type host struct {
	give  func(w api.Want) api.Out
	turns []turn
}

// A completion is what cuts a coercion short.
type completion struct{ out api.Out }

func throw(o api.Out) { panic(completion{o}) }

func (h *host) want(w api.Want) api.Value {
	o := h.give(w)
	h.turns = append(h.turns, turn{w, o})
	if o.Kind == api.Throw {
		throw(thrown(o.Value))
	}
	return o.Value
}

// run is what a coercion ends in.
func (h *host) run(s start) (out api.Out) {
	defer func() {
		if r := recover(); r != nil {
			out = r.(completion).out
		}
	}()
	hint := []string{"default", "number", "string"}
	switch s.kind {
	case 1:
		return val(h.toPrimitive(s.v, hint[s.hint]))
	case 2:
		return val(number(h.toNumber(s.v)))
	case 3:
		return val(text(h.toString(s.v)))
	case 4:
		return val(h.toPropertyKey(s.v))
	case 5:
		return is(h.looselyEqual(s.v, s.w))
	case 6:
		return val(h.lessThan(s.v, s.w))
	}
	return val(h.plus(s.v, s.w))
}

func isThing(v api.Value) bool { return v.Kind > api.Symbol }
func acts(v api.Value) bool    { return v.Kind > api.Thing }
func absent(v api.Value) bool  { return v.Kind < api.Boolean }

func (h *host) toPrimitive(v api.Value, hint string) api.Value {
	if !isThing(v) {
		return v
	}
	if f := h.want(ownWay(v)); !absent(f) {
		if !acts(f) {
			throw(refused())
		}
		p := h.want(callOf(f, v, text(hint)))
		if isThing(p) {
			throw(refused())
		}
		return p
	}
	names := []string{"valueOf", "toString"}
	if hint == "string" {
		names = []string{"toString", "valueOf"}
	}
	for _, name := range names {
		if f := h.want(getOf(v, name)); acts(f) {
			if p := h.want(callOf(f, v)); !isThing(p) {
				return p
			}
		}
	}
	throw(refused())
	return undefined
}

func (h *host) toNumber(v api.Value) float64 {
	switch v = h.toPrimitive(v, "number"); v.Kind {
	case api.Undefined:
		return nan
	case api.Boolean:
		if v.Num == 1 {
			return 1
		}
	case api.Number:
		return v.Num
	case api.String:
		return readNumber(v.Str)
	case api.Symbol:
		throw(refused())
	}
	return 0
}

// readNumber reads digits as they stand, however many, with a sign ahead.
func readNumber(s string) float64 {
	s = strings.Trim(s, "\t\n\r ")
	if s == "" {
		return 0
	}
	sign, tens := "", strings.TrimLeft(s, "+-")
	if len(tens) == len(s)-1 {
		sign = s[:1]
	} else if len(tens) != len(s) {
		return nan
	}
	if tens == "" || strings.Trim(tens, "0123456789") != "" {
		return nan
	}
	x, _ := new(big.Int).SetString(tens, 10)
	if x.CmpAbs(big.NewInt(api.MaxSafe)) > 0 || sign == "-" && x.Sign() == 0 {
		throw(inexact())
	}
	f, _ := new(big.Float).SetInt(x).Float64()
	if sign == "-" {
		f = -f
	}
	return f
}

func (h *host) toString(v api.Value) string {
	switch v = h.toPrimitive(v, "string"); v.Kind {
	case api.Null:
		return "null"
	case api.Boolean:
		return fmt.Sprint(v.Num == 1)
	case api.Number:
		if math.IsNaN(v.Num) {
			return "NaN"
		}
		return fmt.Sprintf("%.0f", v.Num)
	case api.String:
		return v.Str
	case api.Symbol:
		throw(refused())
	}
	return "undefined"
}

func (h *host) toPropertyKey(v api.Value) api.Value {
	if v = h.toPrimitive(v, "string"); v.Kind == api.Symbol {
		return v
	}
	return text(h.toString(v))
}

func (h *host) looselyEqual(x, y api.Value) bool {
	switch {
	case isThing(x) && isThing(y):
		return x.Ref == y.Ref
	case x.Kind == y.Kind && x.Kind == api.Number:
		return x.Num == y.Num
	case x.Kind == y.Kind && x.Kind == api.Boolean:
		return (x.Num == 1) == (y.Num == 1)
	case x.Kind == y.Kind:
		return x.Str == y.Str && x.Ref == y.Ref
	case absent(x) || absent(y):
		return absent(x) && absent(y)
	case x.Kind == api.Number && y.Kind == api.String:
		return x.Num == h.toNumber(y)
	case x.Kind == api.String && y.Kind == api.Number:
		return h.toNumber(x) == y.Num
	case x.Kind == api.Boolean:
		return h.looselyEqual(number(h.toNumber(x)), y)
	case y.Kind == api.Boolean:
		return h.looselyEqual(x, number(h.toNumber(y)))
	case isThing(x):
		return h.looselyEqual(h.toPrimitive(x, "default"), y)
	case isThing(y):
		return h.looselyEqual(x, h.toPrimitive(y, "default"))
	}
	return false
}

func (h *host) lessThan(x, y api.Value) api.Value {
	px, py := h.toPrimitive(x, "number"), api.Value{}
	py = h.toPrimitive(y, "number")
	if px.Kind == api.String && py.Kind == api.String {
		return boolean(strings.Compare(px.Str, py.Str) < 0)
	}
	nx := h.toNumber(px)
	ny := h.toNumber(py)
	if math.IsNaN(nx) || math.IsNaN(ny) {
		return undefined
	}
	return boolean(nx < ny)
}

func (h *host) plus(x, y api.Value) api.Value {
	px := h.toPrimitive(x, "default")
	py := h.toPrimitive(y, "default")
	if px.Kind == api.String || py.Kind == api.String {
		s := h.toString(px)
		s += h.toString(py)
		if len(s) > api.MaxString {
			throw(tooMany())
		}
		return text(s)
	}
	nx := h.toNumber(px)
	sum := nx + h.toNumber(py)
	if math.Abs(sum) > most {
		throw(inexact())
	}
	return number(sum)
}

// A way is one choice after the other; all ways are gone one after the other.
type way struct {
	picks, sizes []int
	at           int
}

func (w *way) pick(n int) int {
	if w.at == len(w.picks) {
		w.picks, w.sizes = append(w.picks, 0), append(w.sizes, n)
	}
	w.at++
	return w.picks[w.at-1]
}

func (w *way) another() bool {
	w.at = 0
	for n := len(w.picks) - 1; n >= 0; n-- {
		w.picks, w.sizes = w.picks[:n+1], w.sizes[:n+1]
		if w.picks[n]+1 < w.sizes[n] {
			w.picks[n]++
			return true
		}
	}
	return false
}

// pool is what may come of what is wanted. Once a good deal was wanted, less may come.
func pool(w api.Want, n int) []api.Out {
	l := []api.Out{thrown(thing(60)), val(undefined)}
	add := func(values ...api.Value) {
		for _, v := range values {
			l = append(l, val(v))
		}
	}
	switch {
	case w.Kind == api.WantCall && n < 6:
		add(null, boolean(true), nay, number(7), number(nan), text("7"), text("-0"), text("b"), symbol(0), thing(3), callable(4), maker(5))
	case w.Kind == api.WantCall:
		add(number(1), text("9"), symbol(4), thing(61))
	case n < 5 && w.Ask.Key.Sym == 1:
		add(null, boolean(false), text("f"), thing(7), callable(8), maker(9))
	case n < 5:
		add(number(0), thing(7), callable(8), maker(9))
	default:
		add(callable(8))
	}
	return l
}

// replay holds a Task against what a coercion wanted and came to.
func replay(t *testing.T, s start, l []turn, end api.Out, noise bool) {
	task := begin(t, s)
	w, e := task.Next(api.Out{})
	for i, x := range l {
		if e != api.OK || !sameWant(w, x.want) {
			t.Fatalf("%v %d of %s\n\t  wants %s (%d)\n\tnot yet %s", s, i, cut(l), cut(w), e, cut(x.want))
		}
		w, e = task.Next(withNoise(x.give, noise))
	}
	if e != api.OK || !sameWant(w, endOf(end)) {
		t.Fatalf("%v %s:\n\t ends %s (%d)\n\tnot by %s", s, cut(l), cut(w), e, cut(end))
	}
	if _, e := task.Next(val(undefined)); e != api.ErrStep {
		t.Fatal(s, "behind the end", e)
	}
}

// withNoise puts something that may be into all fields of an Out that no coercion asks for.
func withNoise(o api.Out, noise bool) api.Out {
	if !noise {
		return o
	}
	return api.Out{Kind: o.Kind, Value: o.Value, Bool: true, Found: true, Desc: api.Desc{Has: 51, Value: text("noise")}, Keys: []api.Key{keyOf("noise"), symKey(0), keyOf("noise")}, Error: 9, Text: "noise"}
}

// ways calls f with each path of a coercion.
func ways(s start, f func(l []turn, end api.Out)) {
	w := &way{}
	for more := true; more; more = w.another() {
		h := &host{}
		h.give = func(want api.Want) api.Out {
			l := pool(want, len(h.turns))
			return l[w.pick(len(l))]
		}
		end := h.run(s)
		f(h.turns, end)
	}
}

// starts are coercions of objects, and of objects with other values.
func starts() []start {
	l := []start{{1, 0, thing(2), null}, {1, 1, callable(2), null}, {1, 2, maker(2), null}}
	for _, kind := range kinds()[1:4] {
		l = append(l, start{kind, 7, thing(0), thing(2)}, start{kind, 2, maker(3), undefined})
	}
	for _, kind := range kinds()[4:] {
		for _, v := range []api.Value{undefined, null, nay, boolean(true), number(7), number(nan), number(most), text("7"), text("-0"), text("b"), text(long(api.MaxString)), symbol(0)} {
			l = append(l, start{kind, 0, v, thing(3)}, start{kind, 1, callable(3), v}, start{kind, 2, maker(9), v})
		}
		l = append(l, pair(kind))
	}
	return l
}

// pair is a coercion of two objects.
func pair(kind uint8) start { return start{kind, 9, callable(2), maker(3)} }

func TestAllWays(t *testing.T) {
	ends := map[uint8]map[uint8]int{}
	for _, s := range starts() {
		if ends[s.kind] == nil {
			ends[s.kind] = map[uint8]int{}
		}
		ways(s, func(l []turn, end api.Out) {
			ends[s.kind][end.Kind]++
			replay(t, s, l, end, false)
			replay(t, s, l, end, true)
		})
	}
	for _, kind := range kinds() {
		if n := ends[kind]; n[api.Done] < 100 || n[api.Throw] < 20 || n[api.Fail] < 50 {
			t.Error(kindName(kind), n)
		}
	}
}

// Whatever the object's primitive is, a kind tells of it what it tells of that primitive alone.
func TestPrimitivesOfObjects(t *testing.T) {
	o := thing(3)
	words := map[uint8]string{coerce.Prim: "string", coerce.Number: "number", coerce.Text: "string", coerce.Key: "string", coerce.Like: "default", coerce.Less: "number", coerce.Add: "default"}
	for _, kind := range kinds() {
		talk := func(v, p api.Value) []turn {
			if !isThing(v) {
				return nil
			}
			return []turn{{ownWay(v), val(callable(5))}, {callOf(callable(5), v, text(words[kind])), val(p)}}
		}
		for _, p := range plains() {
			holdTalk(t, start{kind, 2, o, number(7)}, talk(o, p), plainly(start{kind, 2, p, number(7)}))
			if kind < coerce.Like {
				continue
			}
			for _, q := range plains() {
				if kind != coerce.Like {
					holdTalk(t, start{kind, 0, o, maker(9)}, append(talk(o, p), talk(maker(9), q)...), plainly(start{kind, 0, p, q}))
				}
				if kind == coerce.Like && absent(q) {
					continue // the object is not asked
				}
				holdTalk(t, start{kind, 0, o, q}, talk(o, p), plainly(start{kind, 0, p, q}))
				holdTalk(t, start{kind, 0, q, o}, talk(o, p), plainly(start{kind, 0, q, p}))
			}
		}
	}
}
