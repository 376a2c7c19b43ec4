package exotic_test

import (
	"fmt"
	"math"
	"slices"
	"strconv"
	"strings"

	"bailiff/api"
	"bailiff/desc"
	"bailiff/heap"
	"bailiff/table"
)

// again is a second reading of Do: the chapter's words, one after the other.
func again(h api.Heap, a api.Ask) (api.Heap, api.Out, api.Errno) {
	if e := readAsk(h, a); e != api.OK {
		return api.Heap{}, api.Out{}, e
	}
	h = heap.Twin(h)
	o := &h.Objects[a.Object]
	var out api.Out
	switch {
	case o.Kind == api.Array && a.Method == 6 && a.Key == of("length"):
		out = lengthDefined(h, o, a)
	case o.Kind == api.Array && a.Method == 6 && isIndex(a.Key):
		out = elementDefined(h, o, a)
	case o.Kind == api.Boxed && a.Method == 11:
		out.Kind, out.Keys = 1, boxKeys(o)
	case o.Kind == api.Boxed && isOwn(o, a):
		out = ownAsked(o, a)
	default:
		out = plainly(h, o, a)
	}
	return h, out, api.OK
}

// lengthDefined is what again tells of an array's length: steps 1 to 5.
func lengthDefined(h api.Heap, o *api.Object, a api.Ask) api.Out {
	d, length := a.Desc, int(o.Props[0].Desc.Value.Num)
	if d.Has&1 == 0 {
		return plainly(h, o, a)
	}
	if d.Value.Kind != api.Number || !(d.Value.Num >= 0) || d.Value.Num > 1024 {
		return full()
	}
	size := int(d.Value.Num)
	if size >= length {
		return plainly(h, o, a)
	}
	if !o.Props[0].Desc.Writable {
		return no()
	}
	a.Desc.Has |= 2
	a.Desc.Writable = true
	if out := plainly(h, o, a); !out.Bool {
		return no()
	}
	all := true
	for i := 1023; i >= size && all; i-- {
		at := slices.IndexFunc(o.Props, func(p api.Prop) bool { return p.Key == element(i) })
		switch {
		case at >= 0 && o.Props[at].Desc.Configurable:
			o.Props = append(slices.Clone(o.Props[:at]), o.Props[at+1:]...)
		case at >= 0:
			o.Props[0].Desc.Value, all = number(float64(i+1)), false
		}
	}
	if d.Has&2 != 0 && !d.Writable {
		o.Props[0].Desc.Writable = false
	}
	return api.Out{Kind: 1, Bool: all}
}

// elementDefined is what again tells of an array's index.
func elementDefined(h api.Heap, o *api.Object, a api.Ask) api.Out {
	i, _ := strconv.Atoi(a.Key.Str)
	below := float64(i) < o.Props[0].Desc.Value.Num
	if !below && !o.Props[0].Desc.Writable {
		return no()
	}
	out := plainly(h, o, a)
	if out.Bool && !below {
		o.Props[0].Desc.Value = number(float64(i + 1))
	}
	return out
}

// isOwn tells whether what is asked is asked of a string object's own byte, or length.
func isOwn(o *api.Object, a api.Ask) bool {
	i, _ := strconv.Atoi(a.Key.Str)
	asks := a.Method == 5 || a.Method == 6 || a.Method == 10
	return asks && (a.Key == of("length") || isIndex(a.Key) && i < len(o.Text))
}

// ownAsked is what again tells of these.
func ownAsked(o *api.Object, a api.Ask) api.Out {
	d := stuck(number(float64(len(o.Text))))
	if a.Key != of("length") {
		i, _ := strconv.Atoi(a.Key.Str)
		d = data(text(string([]byte{o.Text[i]})), false, true, false)
	}
	switch a.Method {
	case 5:
		return api.Out{Kind: 1, Found: true, Desc: d}
	case 6:
		may, _ := desc.Compatible(o.Ext, a.Desc, true, d)
		return api.Out{Kind: 1, Bool: may}
	}
	return no()
}

func boxKeys(o *api.Object) []api.Key {
	var out []api.Key
	for i := 0; i < len(o.Text) && i < 1024; i++ {
		out = append(out, element(i))
	}
	all, _ := table.Keys(o.Props)
	for _, k := range all {
		if isIndex(k) {
			out = append(out, k)
		}
	}
	out = append(out, of("length"))
	for _, k := range all {
		if !isIndex(k) {
			out = append(out, k)
		}
	}
	return out
}

func isIndex(k api.Key) bool {
	i, e := strconv.Atoi(k.Str)
	return k.Sym == 0 && e == nil && i >= 0 && i < 1024 && strconv.Itoa(i) == k.Str
}

// plainly is what again tells of what is done as a plain one.
func plainly(h api.Heap, o *api.Object, a api.Ask) api.Out {
	at := slices.IndexFunc(o.Props, func(p api.Prop) bool { return p.Key == a.Key })
	out := api.Out{Kind: 1}
	switch a.Method {
	case 1:
		out.Value = o.Proto
	case 2:
		out.Bool = showValue(a.Value) == showValue(o.Proto)
		if !out.Bool && o.Ext && !slices.Contains(line(h, a.Value), a.Object) {
			out.Bool, o.Proto = true, a.Value
		}
	case 3:
		out.Bool = o.Ext
	case 4:
		out.Bool, o.Ext = true, false
	case 5:
		if at >= 0 {
			out.Found, out.Desc = true, o.Props[at].Desc
		}
	case 6:
		out = defined(o, at, a)
	case 10:
		out.Bool = at < 0 || o.Props[at].Desc.Configurable
		if at >= 0 && out.Bool {
			o.Props = append(slices.Clone(o.Props[:at]), o.Props[at+1:]...)
		}
	case 11:
		out.Keys, _ = table.Keys(o.Props)
	}
	return out
}

// defined is what plainly tells of DefineOwnProperty.
func defined(o *api.Object, at int, a api.Ask) api.Out {
	var now api.Desc
	if at >= 0 {
		now = o.Props[at].Desc
	}
	d, may, _ := desc.Apply(o.Ext, a.Desc, at >= 0, now)
	switch {
	case !may:
		return no()
	case at >= 0:
		o.Props[at].Desc = d
	case len(o.Props) == 1024:
		return full()
	default:
		o.Props = append(slices.Clone(o.Props), api.Prop{Key: a.Key, Desc: d})
	}
	return yes()
}

// line are the numbers of the objects that stand behind a value, itself included.
func line(h api.Heap, v api.Value) []int {
	var out []int
	for v.Kind >= api.Thing {
		out = append(out, v.Ref)
		if v = h.Objects[v.Ref].Proto; h.Objects[out[len(out)-1]].Kind == api.Proxy {
			break
		}
	}
	return out
}

// readAsk is a second reading of which asks may be.
func readAsk(h api.Heap, a api.Ask) api.Errno {
	if heap.Check(h) != api.OK {
		return api.ErrHeap
	}
	if !strings.Contains("|1|2|3|4|5|6|10|11|", fmt.Sprintf("|%d|", a.Method)) || a.Object < 0 || a.Object >= len(h.Objects) {
		return api.ErrArg
	}
	if h.Objects[a.Object].Kind == api.Proxy {
		return api.ErrArg
	}
	if m := a.Method; (m == 5 || m == 6 || m == 10) && !readKey(a.Key) {
		return api.ErrHeap
	}
	if a.Method == 6 {
		if desc.Check(a.Desc) != api.OK {
			return api.ErrDesc
		}
		for _, v := range []api.Value{a.Desc.Value, a.Desc.Get, a.Desc.Set} {
			if !readValue(h, v) {
				return api.ErrHeap
			}
		}
	}
	if a.Method == 2 && !(a.Value.Kind == 1 || a.Value.Kind >= 6) || a.Method == 2 && !readValue(h, a.Value) {
		return api.ErrHeap
	}
	return api.OK
}

func readKey(k api.Key) bool {
	return k.Sym == 0 && len(k.Str) <= 4096 || k.Sym > 0 && k.Str == ""
}

// readValue is a second reading of which values may be in a heap.
func readValue(h api.Heap, v api.Value) bool {
	zero := v.Num == 0 && !math.Signbit(v.Num)
	if v.Kind != api.String && v.Str != "" || v.Kind < api.Symbol && v.Ref != 0 || v.Ref < 0 || len(v.Str) > 4096 {
		return false
	}
	switch v.Kind {
	case api.Boolean:
		return v.Num == 0 || v.Num == 1
	case api.Number:
		return v.Num != v.Num || v.Num == math.Trunc(v.Num) && math.Abs(v.Num) <= 1<<53-1 && (v.Num != 0 || zero)
	case api.Undefined, api.Null, api.String, api.Symbol:
		return zero
	case api.Thing, api.Func, api.Maker:
		if !zero || v.Ref >= len(h.Objects) {
			return false
		}
		o := h.Objects[v.Ref]
		return o.Calls == (v.Kind != api.Thing) && o.Makes == (v.Kind == api.Maker)
	}
	return false
}

// show is all fields of a heap.
func show(h api.Heap) string {
	var out strings.Builder
	for _, o := range h.Objects {
		fmt.Fprintf(&out, "{%d %s %t %s %s %q %t %t", o.Kind, showValue(o.Proto), o.Ext, showValue(o.Target), showValue(o.Handler), o.Text, o.Calls, o.Makes)
		for _, p := range o.Props {
			fmt.Fprintf(&out, " [%q %d: %s]", p.Key.Str, p.Key.Sym, showDesc(p.Desc))
		}
		out.WriteString("}\n")
	}
	return out.String()
}

func showValue(v api.Value) string { return fmt.Sprintf("%d|%v|%q|%d", v.Kind, v.Num, v.Str, v.Ref) }

func showDesc(d api.Desc) string {
	return fmt.Sprintf("%d %s %s %s %t %t %t", d.Has, showValue(d.Value), showValue(d.Get), showValue(d.Set), d.Writable, d.Enumerable, d.Configurable)
}

// showOut is all fields of an outcome; a list without keys is one, nil or not.
func showOut(o api.Out) string {
	return fmt.Sprintf("%d %s %t %t %s %q %d %q", o.Kind, showValue(o.Value), o.Bool, o.Found, showDesc(o.Desc), fmt.Sprint(o.Keys), o.Error, o.Text)
}

// showAsk is all fields of an ask.
func showAsk(a api.Ask) string {
	s := fmt.Sprintf("method %d of %d, %q %d, %s, %s, %s, %v", a.Method, a.Object, a.Key.Str, a.Key.Sym, showDesc(a.Desc), showValue(a.Value), showValue(a.Receiver), a.Args)
	return s[:min(len(s), 500)]
}

// brief is show of what is short.
func brief(h api.Heap) string {
	s := show(h)
	if len(s) > 3000 {
		return fmt.Sprint(s[:3000], " .. ", len(h.Objects), " objects")
	}
	return s
}
