package heap_test

import (
	"math"
	"slices"
	"testing"

	"bailiff/api"
	"bailiff/heap"
)

// P11.3

// anyHeaps are heaps of all sorts, those that may not be among them.
func anyHeaps() []api.Heap {
	odd := api.Object{Kind: 77, Proto: api.Value{Kind: 9, Num: 0.5, Str: long(api.MaxText), Ref: -1}, Text: long(5000), Makes: true, Target: thing(99), Handler: api.Value{Num: nan}}
	odd.Props = append(these(3), api.Prop{Key: api.Key{Str: "a", Sym: -1}, Desc: api.Desc{Has: 255, Value: number(nan), Get: number(minus), Set: thing(-5), Writable: true}})
	odd.Props = append(odd.Props, odd.Props...)
	l := []api.Heap{{}, two(), house(), many(api.MaxObjects), heapOf(odd), heapOf(odd, plain(null), odd), heapOf(plain(null, of("a"), usual(number(1))), plain(null)), heapOf(api.Object{Props: these(2 * api.MaxProps)})}
	return append(l, refused()...)
}

func TestTwin(t *testing.T) {
	for _, h := range anyHeaps() {
		got := heap.Twin(h)
		if !equal(got, h) || !heap.Same(got, h) || !heap.Same(h, got) {
			t.Error(brief(h), brief(got))
		}
	}
}

func holdSame(t *testing.T, a, b api.Heap, want bool) {
	t.Helper()
	if heap.Same(a, b) != want || heap.Same(b, a) != want {
		t.Error(brief(a), brief(b), !want)
	}
}

func TestSameOfAnyTwo(t *testing.T) {
	all := anyHeaps()
	for i, a := range all {
		for k, b := range all {
			holdSame(t, a, b, equal(a, b))
			if i == k {
				holdSame(t, a, twin(b), true)
			}
		}
	}
}

// differing are values of which no two have the same fields, values of one object among them.
func differing() []api.Value {
	return []api.Value{undefined, null, {Kind: api.Boolean}, {Kind: api.Boolean, Num: 1}, number(0), number(1), number(nan), number(0.5), text(""), text("a"), text("A"), {Kind: api.Symbol}, {Kind: api.Symbol, Ref: 1}, thing(0), callable(0), maker(0), thing(1), {Ref: 1}, {Str: "a"}, {Num: 1}, {Num: nan}, {Kind: api.Null, Num: 1}, {Kind: 9}, {Kind: api.Thing, Ref: 1, Num: 1}, {Kind: api.Thing, Ref: 1, Str: "a"}, {Kind: api.String, Str: "a", Ref: 1}}
}

// Each field that holds a value, with each two values in it.
func TestSameOfValues(t *testing.T) {
	fields := []func(o *api.Object, v api.Value){
		func(o *api.Object, v api.Value) { o.Proto = v },
		func(o *api.Object, v api.Value) { o.Target = v },
		func(o *api.Object, v api.Value) { o.Handler = v },
		func(o *api.Object, v api.Value) { o.Props[1].Desc.Value = v },
		func(o *api.Object, v api.Value) { o.Props[1].Desc.Get = v },
		func(o *api.Object, v api.Value) { o.Props[1].Desc.Set = v },
	}
	for _, set := range fields {
		for _, has := range []uint8{0, 51, 60, 255} { // had or not
			for i, v := range differing() {
				for k, w := range differing() {
					a, b := heapOf(plain(null), plain(null)), heapOf(plain(null), plain(null))
					a.Objects[1].Props, b.Objects[1].Props = these(2), these(2)
					a.Objects[1].Props[1].Desc.Has, b.Objects[1].Props[1].Desc.Has = has, has
					set(&a.Objects[1], v)
					set(&b.Objects[1], w)
					holdSame(t, a, b, i == k)
				}
			}
		}
	}
}

// One thing that is changed in one of all objects is enough.
func TestSameOfOneChange(t *testing.T) {
	changes := []func(o *api.Object){
		func(o *api.Object) { o.Kind++ },
		func(o *api.Object) { o.Ext = !o.Ext },
		func(o *api.Object) { o.Calls = !o.Calls },
		func(o *api.Object) { o.Makes = !o.Makes },
		func(o *api.Object) { o.Text += "x" },
		func(o *api.Object) { o.Proto.Ref++ },
		func(o *api.Object) { o.Target.Kind++ },
		func(o *api.Object) { o.Handler.Num++ },
		func(o *api.Object) { o.Props = append(o.Props, these(1)...) },
		func(o *api.Object) { o.Props[0].Key.Str += "x" },
		func(o *api.Object) { o.Props[0].Key.Sym-- },
		func(o *api.Object) { o.Props[0].Desc.Has ^= 64 },
		func(o *api.Object) { o.Props[0].Desc.Has ^= 1 },
		func(o *api.Object) { o.Props[0].Desc.Writable = !o.Props[0].Desc.Writable },
		func(o *api.Object) { o.Props[0].Desc.Enumerable = !o.Props[0].Desc.Enumerable },
		func(o *api.Object) { o.Props[0].Desc.Configurable = !o.Props[0].Desc.Configurable },
		func(o *api.Object) { o.Props[len(o.Props)-1].Desc.Value.Str += "x" },
		func(o *api.Object) { o.Props[len(o.Props)-1].Desc.Get.Ref-- },
		func(o *api.Object) { o.Props[len(o.Props)-1].Desc.Set.Kind++ },
		func(o *api.Object) { o.Props = o.Props[1:] },
		func(o *api.Object) { o.Props = o.Props[:len(o.Props)-1] },
		func(o *api.Object) { slices.Reverse(o.Props) },
	}
	for n := range houseSize {
		for i, change := range changes {
			h := house()
			if i >= 9 && len(h.Objects[n].Props) == 0 || i == len(changes)-1 && len(h.Objects[n].Props) == 1 {
				continue
			}
			change(&h.Objects[n])
			holdSame(t, h, house(), false)
		}
		h := house()
		h.Objects = slices.Delete(h.Objects, n, n+1)
		holdSame(t, h, house(), false)
	}
	h := house()
	slices.Reverse(h.Objects)
	holdSame(t, h, house(), false)
	holdSame(t, heapOf(append(house().Objects, api.Object{})...), house(), false)
	holdSame(t, api.Heap{}, heapOf(api.Object{}), false)
}

func TestSameOfWhatIsAlike(t *testing.T) {
	holdSame(t, heapOf(plain(null)), heapOf(api.Object{Kind: 1, Proto: null, Ext: true, Props: []api.Prop{}}), true)
	holdSame(t, api.Heap{}, api.Heap{Objects: []api.Object{}}, true)
	other := math.Float64frombits(0x7ff8000000000123)
	for _, set := range []func(o *api.Object, x float64){
		func(o *api.Object, x float64) { o.Proto.Num = x },
		func(o *api.Object, x float64) { o.Target.Num = x },
		func(o *api.Object, x float64) { o.Handler.Num = x },
		func(o *api.Object, x float64) { o.Props[0].Desc.Value.Num = x },
		func(o *api.Object, x float64) { o.Props[0].Desc.Get.Num = x },
		func(o *api.Object, x float64) { o.Props[0].Desc.Set.Num = x },
	} {
		of := func(x float64) api.Heap {
			h := two()
			set(&h.Objects[0], x)
			return h
		}
		holdSame(t, of(nan), of(other), true)
		holdSame(t, of(nan), of(-nan), true)
		holdSame(t, of(minus), of(0), true) // they are equal
		holdSame(t, of(nan), of(0), false)
		holdSame(t, of(math.Inf(1)), of(math.Inf(-1)), false)
		holdSame(t, of(math.Inf(1)), of(math.Inf(1)), true)
	}
}
