package post_test

import (
	"fmt"
	"slices"
	"testing"

	"bailiff/api"
	"bailiff/post"
)

// The checks once more, as the language that one knows tells them, step by step, of descriptors whose fields stand by their words.

type fields map[string]any

func words() []string {
	return []string{"value", "writable", "get", "set", "enumerable", "configurable"}
}

func read(d api.Desc) fields {
	f := fields{}
	for i, x := range []any{d.Value, d.Writable, d.Get, d.Set, d.Enumerable, d.Configurable} {
		if d.Has>>i&1 == 1 {
			f[words()[i]] = x
		}
	}
	return f
}

func written(f fields) api.Desc {
	d := api.Desc{}
	for i, w := range words() {
		if f.has(w) {
			d.Has |= 1 << i
		}
	}
	d.Value, _ = f["value"].(api.Value)
	d.Get, _ = f["get"].(api.Value)
	d.Set, _ = f["set"].(api.Value)
	d.Writable, _ = f["writable"].(bool)
	d.Enumerable, _ = f["enumerable"].(bool)
	d.Configurable, _ = f["configurable"].(bool)
	return d
}

func (f fields) has(word string) bool {
	_, is := f[word]
	return is
}

func (f fields) data() bool   { return f.has("value") || f.has("writable") }
func (f fields) access() bool { return f.has("get") || f.has("set") }

// name tells what two values that are the same have alike, and no two others.
func name(x any) string {
	v, is := x.(api.Value)
	switch {
	case !is:
		return fmt.Sprint(x)
	case v.Kind > api.Symbol:
		return fmt.Sprint("object ", v.Ref)
	}
	return fmt.Sprintf("%d %v %q %d", v.Kind, v.Num, v.Str, v.Ref)
}

func completed(d api.Desc) fields {
	f := read(d)
	l := []string{"value", "writable", "enumerable", "configurable"}
	if f.access() {
		l = []string{"get", "set", "enumerable", "configurable"}
	}
	for _, w := range l {
		if f.has(w) {
			continue
		}
		f[w] = false
		if w == "value" || w == "get" || w == "set" {
			f[w] = undefined
		}
	}
	return f
}

// compatible is the language's own way of telling whether a property may become so; now is nil, where there is none.
func compatible(ext bool, d, now fields) bool {
	differs := func(w string) bool { return d.has(w) && name(d[w]) != name(now[w]) }
	switch {
	case now == nil:
		return ext
	case now["configurable"] == true:
		return true
	case d["configurable"] == true || differs("enumerable"):
		return false
	case !d.data() && !d.access():
		return true
	case d.data() != now.data():
		return false
	case now.access():
		return !differs("set") && !differs("get")
	case now["writable"] == false:
		return d["writable"] != true && !differs("value")
	}
	return true
}

// told is the property that the facts tell; nil, where there is none.
func told(f post.Facts) fields {
	if !f.Found {
		return nil
	}
	return read(f.Desc)
}

func isObject(v api.Value) bool { return v.Kind > api.Symbol }

// delivered is an answer as it is delivered.
func delivered(method uint8, answer api.Out) api.Out {
	out := api.Out{Kind: api.Done}
	switch method {
	case 1, 8, 12, 13:
		out.Value = answer.Value
	case 2, 3, 4, 6, 7, 9, 10:
		out.Bool = answer.Bool
	case 11:
		out.Keys = answer.Keys
	case 5:
		if answer.Found {
			out.Found, out.Desc = true, written(completed(answer.Desc))
		}
	}
	return out
}

// stands tells whether an answer is let through.
func stands(c claim) bool {
	v, b, ext, target := c.answer.Value, c.answer.Bool, c.facts.Ext, told(c.facts)
	switch c.ask.Method {
	case 1:
		if !isObject(v) && v.Kind != api.Null {
			return false
		}
		return ext || name(v) == name(c.facts.Proto)
	case 2:
		if !b || ext {
			return true
		}
		return name(c.ask.Value) == name(c.facts.Proto)
	case 3:
		return b == ext
	case 4:
		return !(b && ext)
	case 5:
		return standsOwn(c.answer, ext, target)
	case 6:
		return !b || standsDefined(read(c.ask.Desc), ext, target)
	case 7:
		return b || target == nil || target["configurable"] == true && ext
	case 8:
		return standsGot(v, target)
	case 9:
		return !b || standsSet(c.ask.Value, target)
	case 10:
		return !b || target == nil || target["configurable"] == true && ext
	case 11:
		return standsKeys(c.answer.Keys, c.facts)
	case 13:
		return isObject(v)
	}
	return true
}

func standsOwn(answer api.Out, ext bool, target fields) bool {
	if !answer.Found {
		if target == nil {
			return true
		}
		return target["configurable"] == true && ext
	}
	result := completed(answer.Desc)
	if !compatible(ext, result, target) {
		return false
	}
	if result["configurable"] == false {
		if target == nil || target["configurable"] == true {
			return false
		}
		if result["writable"] == false && target["writable"] == true {
			return false
		}
	}
	return true
}

func standsDefined(d fields, ext bool, target fields) bool {
	fixing := d["configurable"] == false
	if target == nil {
		return ext && !fixing
	}
	if !compatible(ext, d, target) || fixing && target["configurable"] == true {
		return false
	}
	if target.data() && target["configurable"] == false && target["writable"] == true && d["writable"] == false {
		return false
	}
	return true
}

func standsGot(v api.Value, target fields) bool {
	if target == nil || target["configurable"] == true {
		return true
	}
	if target.data() && target["writable"] == false && name(v) != name(target["value"]) {
		return false
	}
	if target.access() && name(target["get"]) == name(undefined) && v.Kind != api.Undefined {
		return false
	}
	return true
}

func standsSet(v api.Value, target fields) bool {
	if target == nil || target["configurable"] == true {
		return true
	}
	if target.data() && target["writable"] == false {
		return name(v) == name(target["value"])
	}
	return !target.access() || name(target["set"]) != name(undefined)
}

// standsKeys takes the target's keys, those that can't go first, out of a list of what was answered.
func standsKeys(l []api.Key, f post.Facts) bool {
	if !once(l) {
		return false
	}
	var fixed, loose []api.Key
	for i, k := range f.Keys {
		if f.Own[i].Has != 0 && !f.Own[i].Configurable {
			fixed = append(fixed, k)
		} else {
			loose = append(loose, k)
		}
	}
	unchecked := slices.Clone(l)
	take := func(keys []api.Key) bool {
		for _, k := range keys {
			i := slices.Index(unchecked, k)
			if i < 0 {
				return false
			}
			unchecked = slices.Delete(unchecked, i, i+1)
		}
		return true
	}
	if !take(fixed) {
		return false
	}
	return f.Ext || take(loose) && len(unchecked) == 0
}

// again is the second reading of Check, of a claim in which all that counts may be.
func again(c claim) (api.Out, bool) {
	if !stands(c) {
		return api.Out{}, false
	}
	return delivered(c.ask.Method, c.answer), true
}

// Each claim over few values, descriptors and keys, as it is, and with junk in all that counts for nothing.
func TestAllClaims(t *testing.T) {
	j := junk()
	for method := api.GetPrototypeOf; method <= api.Construct; method++ {
		wells, lies := 0, 0
		each(method, func(c claim) {
			if t.Failed() {
				return
			}
			out, well := again(c)
			holdCheck(t, c, out, well, api.OK)
			holdCheck(t, within(c, j), out, well, api.OK)
			if well {
				wells++
			} else {
				lies++
			}
		})
		if wells == 0 || lies == 0 && method != api.Call {
			t.Error(post.Name(method), wells, lies)
		}
	}
}

// Made lists of keys, longer than those that all are gone through.
func TestMadeKeys(t *testing.T) {
	next := rule(15)
	wells, lies := 0, 0
	for range 20000 {
		c := claimOf(api.OwnKeys)
		c.facts.Ext = next(3) == 0
		pool := many(12)
		for _, k := range pool {
			if next(3) > 0 {
				c.facts.Keys = append(c.facts.Keys, k)
				c.facts.Own = append(c.facts.Own, []api.Desc{{}, fixed(null), loose(null), accessOf(undefined, undefined, true, next(2) == 0)}[next(4)])
			}
		}
		c.answer.Keys = slices.Clone(c.facts.Keys)
		for range next(3) {
			switch l := c.answer.Keys; {
			case len(l) > 0 && next(2) == 0:
				i := next(len(l))
				c.answer.Keys = slices.Delete(l, i, i+1)
			default:
				c.answer.Keys = slices.Insert(l, next(len(l)+1), pool[next(12)])
			}
		}
		if len(c.answer.Keys) > 1 && next(2) == 0 {
			l, i := c.answer.Keys, next(len(c.answer.Keys))
			l[0], l[i] = l[i], l[0]
		}
		out, well := again(c)
		holdCheck(t, c, out, well, api.OK)
		if well {
			wells++
		} else {
			lies++
		}
	}
	if wells < 2000 || lies < 2000 {
		t.Error(wells, lies)
	}
}
