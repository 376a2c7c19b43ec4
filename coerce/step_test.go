package coerce_test

import (
	"fmt"
	"testing"

	"bailiff/api"
	"bailiff/coerce"
	"bailiff/desc"
)

// P17.2: a machine that waits.

// illOuts may not be given, whatever was wanted.
func illOuts() []api.Out {
	l := []api.Out{{}, refused(), {Kind: api.Fail}, {Kind: 4}, {Kind: 77, Value: null}, {Kind: 255, Bool: true}, {Value: callable(5), Bool: true}}
	for _, kind := range []uint8{api.Done, api.Throw} {
		for _, v := range illValues() {
			l = append(l, api.Out{Kind: kind, Value: v})
		}
		for _, d := range illDescs() {
			l = append(l, api.Out{Kind: kind, Value: callable(5), Found: true, Desc: d}, api.Out{Kind: kind, Desc: d})
		}
		for _, k := range illKeys() {
			l = append(l, api.Out{Kind: kind, Value: callable(5), Keys: []api.Key{k}}, api.Out{Kind: kind, Keys: []api.Key{keyOf("a"), symKey(0), k}})
		}
	}
	return l
}

// A talk is a coercion, what it wants, and its end.
type talk struct {
	s   start
	l   []turn
	end api.Out
}

// longTalks are talks that lead through all steps, of all kinds.
func longTalks() []talk {
	v, w, f := thing(3), maker(4), callable(5)
	var l []talk
	for _, kind := range kinds() {
		s := start{kind, 2, v, text("x")}
		if kind > coerce.Like {
			s.w = w
		}
		straight, around := way1(s, v, f), way2(s, v, f)
		if s.w == w {
			straight, around = append(straight, way2(s, w, f)...), append(around, way1(s, w, f)...)
		}
		end := plainly(start{kind, 2, text("7"), text("7")})
		if kind == coerce.Like {
			end = is(false)
		}
		l = append(l, talk{s, straight, end}, talk{s, around, end})
	}
	return l
}

// wordOf and firstOf are how an object's primitive is sought, by the hint of a kind.
func wordOf(s start) string {
	return []string{"", "string", "number", "string", "string", "default", "number", "default"}[s.kind]
}
func methodsOf(s start) (string, string) {
	if wordOf(s) == "string" {
		return "toString", "valueOf"
	}
	return "valueOf", "toString"
}

// way1 is the short way to the primitive "7", way2 the longest one.
func way1(s start, o, f api.Value) []turn {
	return []turn{{ownWay(o), val(f)}, {callOf(f, o, text(wordOf(s))), val(text("7"))}}
}
func way2(s start, o, f api.Value) []turn {
	first, second := methodsOf(s)
	return []turn{{ownWay(o), val(null)}, {getOf(o, first), val(f)}, {callOf(f, o), val(f)}, {getOf(o, second), val(f)}, {callOf(f, o), val(text("7"))}}
}

func TestLongTalks(t *testing.T) {
	for _, x := range longTalks() {
		holdTalk(t, x.s, x.l, x.end)
	}
}

// lead leads a Task through a talk up to the turn n, where it has told what it wants.
func lead(t *testing.T, x talk, n int) *coerce.Task {
	t.Helper()
	task := begin(t, x.s)
	o := api.Out{}
	for i := range n + 1 {
		next(t, fmt.Sprint(x.s), task, o, x.l[i].want)
		o = x.l[i].give
	}
	return task
}

// follow holds what comes behind the turn n.
func follow(t *testing.T, x talk, n int, task *coerce.Task) {
	t.Helper()
	for ; n+1 < len(x.l); n++ {
		next(t, fmt.Sprint(x.s, " ", n), task, x.l[n].give, x.l[n+1].want)
	}
	next(t, fmt.Sprint(x.s, " end"), task, x.l[n].give, endOf(x.end))
}

func holdIll(t *testing.T, x talk, n int, task *coerce.Task, l []api.Out) {
	t.Helper()
	for _, o := range l {
		if w, e := task.Next(o); e != api.ErrStep || !sameWant(w, api.Want{}) {
			t.Errorf("%v %d: given %s: %s (%d)", x.s, n, cut(o), cut(w), e)
		}
	}
}

// What may not be given is ErrStep at each step, and changes nothing: what may is taken then. So is anything behind the end.
func TestIllGiven(t *testing.T) {
	ill := illOuts()
	for _, x := range longTalks() {
		for n := range x.l {
			task := lead(t, x, n)
			holdIll(t, x, n, task, ill)
			follow(t, x, n, task)
			holdIll(t, x, -1, task, append(ill, val(undefined), thrown(null), val(callable(5))))
		}
	}
}

// Whether a descriptor may be given hangs on that alone, of each Has and each field that it has or has not.
func TestDescsGiven(t *testing.T) {
	x := longTalks()[0]
	task := lead(t, x, 0)
	met := map[api.Errno]int{}
	values := append(illValues()[:14], undefined, null, nay, number(nan), callable(3), maker(4), thing(5), text("x"))
	for has := range 256 {
		for _, v := range values {
			full := api.Desc{Has: uint8(has), Value: v, Get: v, Set: v, Writable: true, Enumerable: true, Configurable: true}
			for mask := range 64 {
				d := masked(full, mask)
				met[holdDesc(t, x, &task, d)]++
			}
		}
	}
	if met[api.OK] < 1000 || met[api.ErrDesc] < 1000 {
		t.Error(met)
	}
}

// masked is a descriptor with those fields alone whose bits are in a mask.
func masked(d api.Desc, mask int) api.Desc {
	out := api.Desc{Has: d.Has, Writable: mask&2 != 0, Enumerable: mask&16 != 0, Configurable: mask&32 != 0}
	if mask&1 != 0 {
		out.Value = d.Value
	}
	if mask&4 != 0 {
		out.Get = d.Get
	}
	if mask&8 != 0 {
		out.Set = d.Set
	}
	return out
}

// holdDesc gives a descriptor to a Task that stands at its first turn; one that is taken is followed by another.
func holdDesc(t *testing.T, x talk, task **coerce.Task, d api.Desc) api.Errno {
	o := api.Out{Kind: api.Done, Value: number(1), Desc: d}
	w, e := (*task).Next(o)
	want := desc.Check(d)
	if want == api.OK && (e != api.OK || w.Kind != api.WantEnd) || want != api.OK && e != api.ErrStep {
		t.Errorf("given %s: %s (%d), not %d", cut(o), cut(w), e, want)
	}
	if e == api.OK {
		*task = lead(t, x, 0)
	}
	return want
}

// What is thrown at any step is the end.
func TestThrown(t *testing.T) {
	for _, x := range longTalks() {
		for n := range x.l {
			for _, v := range []api.Value{undefined, null, nay, number(nan), text("x"), symbol(3), thing(60), callable(61), maker(62)} {
				for _, noise := range []bool{false, true} {
					task := lead(t, x, n)
					next(t, fmt.Sprint(x.s), task, withNoise(thrown(v), noise), endOf(thrown(v)))
					holdEnded(t, x.s, task)
				}
			}
		}
	}
}

// The first Next looks at nothing.
func TestFirstNext(t *testing.T) {
	for _, x := range longTalks() {
		for _, o := range append(illOuts(), val(undefined), thrown(null), val(callable(5))) {
			task := begin(t, x.s)
			next(t, fmt.Sprint(x.s), task, o, x.l[0].want)
			follow(t, x, 0, task)
		}
	}
	for _, kind := range kinds() {
		for _, o := range append(illOuts(), val(undefined), thrown(null), val(callable(5))) {
			s := start{kind, 0, text("7"), text("8")}
			task := begin(t, s)
			next(t, fmt.Sprint(s), task, o, endOf(plainly(s)))
			holdEnded(t, s, task)
		}
	}
}

func TestNoTask(t *testing.T) {
	for _, task := range []*coerce.Task{nil, {}, new(coerce.Task)} {
		for _, o := range append(illOuts(), val(undefined), thrown(null), val(callable(5))) {
			for range 2 {
				if w, e := task.Next(o); e != api.ErrNil || !sameWant(w, api.Want{}) {
					t.Error(cut(w), e)
				}
			}
		}
	}
}

// Tasks go on by themselves: two under way at once, step by step, tell what each tells alone.
func TestTwoTasks(t *testing.T) {
	for _, x := range longTalks() {
		for _, y := range longTalks() {
			first, second := begin(t, x.s), begin(t, y.s)
			o, p := val(undefined), val(undefined)
			for i := range min(len(x.l), len(y.l)) {
				next(t, fmt.Sprint(x.s), first, o, x.l[i].want)
				next(t, fmt.Sprint(y.s), second, p, y.l[i].want)
				o, p = x.l[i].give, y.l[i].give
			}
		}
	}
}
