package trap_test

import (
	"fmt"
	"slices"
	"strconv"
	"testing"

	"bailiff/api"
	"bailiff/post"
	"bailiff/trap"
)

// P16.2 once more: the traps as the language that one knows tells them, each method a function that runs from its beginning to its end, against every path through a Task.

// A proxy is one that is asked. What comes of what it wants, give tells.
type proxy struct {
	ask             api.Ask
	target, handler api.Value
	give            func(w api.Want) api.Out
	turns           []turn
}

// A completion is what cuts a method short.
type completion struct{ out api.Out }

func (p *proxy) want(w api.Want) api.Out {
	o := p.give(w)
	p.turns = append(p.turns, turn{w, o})
	if o.Kind == api.Throw {
		panic(completion{thrown(o.Value)})
	}
	return o
}

func throw(o api.Out) { panic(completion{o}) }

func throwIf(b bool) {
	if b {
		throw(refused())
	}
}

// run is what the proxy answers.
func (p *proxy) run() (out api.Out) {
	defer func() {
		if r := recover(); r != nil {
			out = r.(completion).out
		}
	}()
	throwIf(p.handler.Kind == api.Null)
	m := p.ask.Method
	f := p.want(getOf(p.handler, trapName(m))).Value
	if f.Kind == api.Undefined || f.Kind == api.Null {
		a := p.ask
		a.Object = p.target.Ref
		return p.want(api.Want{Kind: api.WantMethod, Ask: a})
	}
	throwIf(f.Kind != api.Func && f.Kind != api.Maker)
	var args []api.Value
	k := text(p.ask.Key.Str)
	if p.ask.Key.Sym > 0 {
		k = symbol(p.ask.Key.Sym - 1)
	}
	switch m {
	case 2:
		args = []api.Value{p.ask.Value}
	case 5, 7, 10:
		args = []api.Value{k}
	case 6:
		args = []api.Value{k, p.want(plainOf(propsOf(p.ask.Desc)...)).Value}
	case 8:
		args = []api.Value{k, p.ask.Receiver}
	case 9:
		args = []api.Value{k, p.ask.Value, p.ask.Receiver}
	case 12:
		args = []api.Value{p.ask.Value, p.want(arrayOf(p.ask.Args...)).Value}
	case 13:
		args = []api.Value{p.want(arrayOf(p.ask.Args...)).Value, p.ask.Value}
	}
	v := p.want(callOf(f, p.handler, append([]api.Value{p.target}, args...)...)).Value
	return []func(v api.Value) api.Out{
		1: p.getPrototypeOf, 2: p.setPrototypeOf, 3: p.isExtensible, 4: p.preventExtensions, 5: p.getOwnProperty, 6: p.defineOwnProperty,
		7: p.hasProperty, 8: p.get, 9: p.set, 10: p.delete, 11: p.ownKeys, 12: val, 13: p.construct,
	}[m](v)
}

// propsOf are a descriptor's fields as properties.
func propsOf(d api.Desc) []api.Prop {
	names := []string{"value", "writable", "get", "set", "enumerable", "configurable"}
	values := []api.Value{d.Value, boolean(d.Writable), d.Get, d.Set, boolean(d.Enumerable), boolean(d.Configurable)}
	var l []api.Prop
	for i, name := range names {
		if d.Has>>i&1 == 1 {
			l = append(l, prop(name, loose(values[i])))
		}
	}
	return l
}

func truth(v api.Value) bool {
	switch v.Kind {
	case api.Boolean, api.Number:
		return v.Num == v.Num && v.Num != 0
	case api.String:
		return v.Str != ""
	}
	return v.Kind > api.String
}

func isThing(v api.Value) bool { return v.Kind > api.Symbol }

func (p *proxy) ext() bool { return p.want(ask(3, p.target.Ref)).Bool }
func (p *proxy) parent() api.Value {
	return p.want(ask(1, p.target.Ref)).Value
}
func (p *proxy) own() (bool, api.Desc) { return p.ownOf(p.ask.Key) }
func (p *proxy) ownOf(k api.Key) (bool, api.Desc) {
	o := p.want(askOf(5, p.target.Ref, k))
	return o.Found, o.Desc
}

// hold holds an answer against what the target told.
func (p *proxy) hold(answer api.Out, f post.Facts) api.Out {
	out, well, e := post.Check(p.ask, answer, f)
	throwIf(e != api.OK || !well)
	return out
}

func (p *proxy) getPrototypeOf(v api.Value) api.Out {
	throwIf(!isThing(v) && v.Kind != api.Null)
	if p.ext() {
		return val(v)
	}
	return p.hold(val(v), post.Facts{Proto: p.parent()})
}

func (p *proxy) setPrototypeOf(v api.Value) api.Out {
	if !truth(v) {
		return yes(false)
	}
	if p.ext() {
		return yes(true)
	}
	return p.hold(yes(true), post.Facts{Proto: p.parent()})
}

func (p *proxy) isExtensible(v api.Value) api.Out {
	throwIf(truth(v) != p.ext())
	return yes(truth(v))
}

func (p *proxy) preventExtensions(v api.Value) api.Out {
	if truth(v) {
		throwIf(p.ext())
	}
	return yes(truth(v))
}

func (p *proxy) getOwnProperty(v api.Value) api.Out {
	throwIf(!isThing(v) && v.Kind != api.Undefined)
	is, d := p.own()
	if v.Kind == api.Undefined {
		if is {
			throwIf(!d.Configurable)
			throwIf(!p.ext())
		}
		return none()
	}
	ext := p.ext()
	return p.hold(found(p.toDesc(v)), post.Facts{Ext: ext, Found: is, Desc: d})
}

// toDesc reads an object as a descriptor.
func (p *proxy) toDesc(v api.Value) api.Desc {
	var d api.Desc
	field := func(name string, has uint8, put func(x api.Value)) {
		if p.want(hasOf(v, name)).Bool {
			d.Has |= has
			put(p.want(getOf(v, name)).Value)
		}
	}
	field("enumerable", 16, func(x api.Value) { d.Enumerable = truth(x) })
	field("configurable", 32, func(x api.Value) { d.Configurable = truth(x) })
	field("value", 1, func(x api.Value) { d.Value = x })
	field("writable", 2, func(x api.Value) { d.Writable = truth(x) })
	doer := func(to *api.Value) func(x api.Value) {
		return func(x api.Value) {
			throwIf(x.Kind != api.Undefined && x.Kind < api.Func)
			*to = x
		}
	}
	field("get", 4, doer(&d.Get))
	field("set", 8, doer(&d.Set))
	throwIf(d.Has&12 != 0 && d.Has&3 != 0)
	return d
}

func (p *proxy) defineOwnProperty(v api.Value) api.Out {
	if !truth(v) {
		return yes(false)
	}
	is, d := p.own()
	return p.hold(yes(true), post.Facts{Ext: p.ext(), Found: is, Desc: d})
}

func (p *proxy) hasProperty(v api.Value) api.Out {
	if !truth(v) {
		p.gone()
	}
	return yes(truth(v))
}

// gone throws, where it can't be said that there is no property.
func (p *proxy) gone() {
	if is, d := p.own(); is {
		throwIf(!d.Configurable)
		throwIf(!p.ext())
	}
}

func (p *proxy) get(v api.Value) api.Out {
	is, d := p.own()
	return p.hold(val(v), post.Facts{Found: is, Desc: d})
}

func (p *proxy) set(v api.Value) api.Out {
	if !truth(v) {
		return yes(false)
	}
	is, d := p.own()
	return p.hold(yes(true), post.Facts{Found: is, Desc: d})
}

func (p *proxy) delete(v api.Value) api.Out {
	if truth(v) {
		p.gone()
	}
	return yes(truth(v))
}

func (p *proxy) construct(v api.Value) api.Out {
	throwIf(!isThing(v))
	return val(v)
}

func (p *proxy) ownKeys(v api.Value) api.Out {
	throwIf(!isThing(v))
	n := p.want(getOf(v, "length")).Value
	throwIf(n.Kind != api.Number)
	if x := n.Num; x != float64(int(x)) || x < 0 || x > api.MaxProps {
		throw(tooMany())
	}
	var l []api.Key
	for i := 0; float64(i) < n.Num; i++ {
		switch x := p.want(getOf(v, strconv.Itoa(i))).Value; x.Kind {
		case api.String:
			l = append(l, keyOf(x.Str))
		case api.Symbol:
			l = append(l, symKey(x.Ref))
		default:
			throw(refused())
		}
	}
	for i, k := range l {
		throwIf(slices.Contains(l[:i], k))
	}
	facts := post.Facts{Ext: p.ext()}
	facts.Keys = p.want(ask(11, p.target.Ref)).Keys
	for _, k := range facts.Keys {
		is, d := p.ownOf(k)
		if !is {
			d = api.Desc{}
		}
		facts.Own = append(facts.Own, d)
	}
	return p.hold(api.Out{Kind: api.Done, Keys: l}, facts)
}

// A way is one choice after the other; all ways are gone one after the other.
type way struct {
	picks, sizes []int
	at           int
}

func (w *way) pick(n int) int {
	if w.at == len(w.picks) {
		w.picks, w.sizes = append(w.picks, 0), append(w.sizes, n)
	}
	w.at++
	return w.picks[w.at-1]
}

func (w *way) another() bool {
	w.at = 0
	for n := len(w.picks) - 1; n >= 0; n-- {
		w.picks, w.sizes = w.picks[:n+1], w.sizes[:n+1]
		if w.picks[n]+1 < w.sizes[n] {
			w.picks[n]++
			return true
		}
	}
	return false
}

// pool is what may come of what is wanted; called tells whether the trap was called. (What is thrown while an answer is read stands elsewhere, and so do all kinds of objects that are read.)
func pool(p *proxy, w api.Want, called bool) []api.Out {
	a, l := p.ask, []api.Out{thrown(thing(60))}
	reads := a.Method == api.GetOwnProperty || a.Method == api.OwnKeys
	if reads && w.Ask.Object == 20 {
		l = nil
	}
	add := func(values ...api.Value) []api.Out {
		for _, v := range values {
			l = append(l, val(v))
		}
		return l
	}
	if w.Kind == api.WantNew {
		return add(thing(40), thing(41))
	}
	if w.Kind == api.WantCall {
		add(undefined, null, boolean(false), boolean(true), number(0), number(nan), number(7), text(""), text("x"), symbol(0), thing(20))
		if reads {
			return l
		}
		return add(callable(21), maker(22))
	}
	if !called && w.Ask.Object == p.handler.Ref {
		return add(undefined, null, callable(5), thing(4), number(5), text("f"))
	}
	switch w.Ask.Method {
	case 1:
		return add(null, thing(20), callable(21), thing(92))
	case 3, 7:
		return append(l, yes(false), yes(true))
	case 5:
		l = append(l, none())
		for _, d := range theirDescs() {
			l = append(l, found(d))
		}
		if a.Method == api.OwnKeys {
			return l[:5]
		}
		return l
	case 11:
		return append(l, told(), told("a"), told("@"), told("a", "b"), told("b", "@"), told("@", "b", "a"))
	case 8:
		return gotten(w.Ask.Key.Str, add)
	}
	return append(l, none())
}

// gotten is what may be got of an answer by a key.
func gotten(name string, add func(values ...api.Value) []api.Out) []api.Out {
	switch name {
	case "length":
		return add(undefined, text("1"), number(0), number(1), number(2), number(3), number(-1), number(nan), number(1025))
	case "get", "set":
		return add(undefined, callable(7), thing(7))
	case "value":
		return add(undefined, number(7))
	case "enumerable", "configurable", "writable":
		return add(undefined, number(1))
	}
	return add(text("a"), text("b"), symbol(0), number(0), undefined)
}

// theirDescs are properties that the target may have.
func theirDescs() []api.Desc {
	return []api.Desc{
		fixed(number(7)), loose(number(7)), accessOf(callable(7), undefined, false, true), written(number(7)), dataOf(undefined, false, true, false),
		accessOf(callable(7), maker(8), false, false), accessOf(undefined, callable(7), true, false), accessOf(undefined, undefined, false, false),
	}
}

// askers are asks of a method.
func askers(m uint8) []api.Ask {
	a := filled(m)
	l := []api.Ask{a}
	switch {
	case m == api.DefineOwnProperty:
		l = nil
		for _, d := range []api.Desc{{}, {Has: 1, Value: number(7)}, {Has: 2}, {Has: 32}, fixed(number(7)), loose(number(8)), accessOf(callable(7), undefined, false, false), {Has: 60, Get: undefined, Set: undefined}} {
			a.Desc = d
			l = append(l, a)
		}
	case m == api.SetPrototypeOf:
		a.Value = null
		l = append(l, a)
	case m == api.Set:
		a.Value = number(7)
		l = append(l, a)
	case m == api.Call || m == api.Construct:
		a.Args = nil
		l = append(l, a)
	}
	if isKeyed(m) {
		a.Key = symKey(3)
		l = append(l, a)
	}
	return l
}

// replay holds a Task against what a proxy wanted and answered. Of what is thrown it counts what was.
func replay(t *testing.T, name string, p *proxy, end api.Out, noise bool) {
	task, e := trap.Start(p.ask, p.target, p.handler)
	if e != api.OK {
		t.Fatal(name, e)
	}
	w, e := task.Next(api.Out{})
	for i, x := range p.turns {
		if e != api.OK || !sameWant(w, x.want) {
			t.Fatalf("%s %v: %d\n\t  wants %s (%d)\n\tnot yet %s", name, p.turns[:i], i, showWant(w), e, showWant(x.want))
		}
		o := x.give
		if noise {
			o = withNoise(x.want, o)
			if x.want.Ask.Method == p.ask.Method && x.want.Ask.Object == p.target.Ref && i == 1 && o.Kind == api.Done {
				end = o // step 3: what is given is the end
			}
		}
		w, e = task.Next(o)
	}
	if noise && w.Out.Kind == api.Throw {
		w.Out = thrown(w.Out.Value)
	}
	if e != api.OK || !sameWant(w, endOf(end)) {
		t.Fatalf("%s %v:\n\t ends %s (%d)\n\tnot by %s", name, p.turns, showWant(w), e, showOut(end))
	}
	if _, e := task.Next(none()); e != api.ErrStep {
		t.Fatal(name, "behind the end", e)
	}
}

// ways calls f with each path of an ask.
func ways(a api.Ask, target, handler api.Value, f func(p *proxy, end api.Out)) {
	w := &way{}
	for more := true; more; more = w.another() {
		p := &proxy{ask: a, target: target, handler: handler}
		called := false
		p.give = func(want api.Want) api.Out {
			l := pool(p, want, called)
			called = called || want.Kind == api.WantCall
			return l[w.pick(len(l))]
		}
		f(p, p.run())
	}
}

func TestAllWays(t *testing.T) {
	for _, m := range methods() {
		ends := map[uint8]int{}
		for i, a := range append(askers(m), filled(m)) {
			target, handler := maker(1), thing(2)
			if i%2 == 1 {
				target, handler = maker(0), callable(47)
			}
			ways(a, target, handler, func(p *proxy, end api.Out) {
				ends[end.Kind]++
				name := fmt.Sprint(trapName(m), " ", i)
				replay(t, name, p, end, false)
				replay(t, name, p, end, true)
			})
		}
		if ends[api.Done] < 8 || ends[api.Throw] < 8 || ends[api.Fail] < 4 {
			t.Error(trapName(m), ends)
		}
	}
}
