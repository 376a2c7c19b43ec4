package post_test

import (
	"slices"
	"testing"

	"bailiff/api"
	"bailiff/desc"
	"bailiff/key"
	"bailiff/post"
	"bailiff/value"
)

// P15.4

// eachFacts calls f with what targets of all sorts may tell of a property, and of their prototype.
func eachFacts(f func(facts post.Facts)) {
	for _, ext := range bools() {
		for _, proto := range parents() {
			f(post.Facts{Ext: ext, Proto: proto})
			for _, d := range wholes() {
				f(post.Facts{Ext: ext, Proto: proto, Found: true, Desc: d})
			}
		}
	}
}

// What the target itself would answer is never refused, and is delivered as it is.
func TestTheTargetsOwnAnswer(t *testing.T) {
	eachFacts(func(f post.Facts) {
		holdWell(t, saying(api.IsExtensible, f.Ext, f), api.Out{Bool: f.Ext})
		holdWell(t, saying(api.HasProperty, f.Found, f), api.Out{Bool: f.Found})
		holdWell(t, telling(api.GetPrototypeOf, f.Proto, f), api.Out{Value: f.Proto})
		c := missing(f)
		c.answer.Found, c.answer.Desc = f.Found, f.Desc
		holdWell(t, c, api.Out{Found: f.Found, Desc: f.Desc})
		if f.Found && desc.IsData(f.Desc) {
			holdWell(t, telling(api.Get, f.Desc.Value, f), api.Out{Value: f.Desc.Value})
			holdWell(t, putting(api.Set, f.Desc.Value, true, f), api.Out{Bool: true})
		}
	})
	each(api.OwnKeys, func(c claim) {
		if len(c.answer.Keys) > 0 {
			return
		}
		c.answer.Keys = slices.Clone(c.facts.Keys)
		holdWell(t, c, api.Out{Keys: c.facts.Keys})
		c.answer.Keys = key.Order(c.facts.Keys)
		holdWell(t, c, api.Out{Keys: key.Order(c.facts.Keys)})
	})
}

// What is told to be done, and is done, is not refused: the facts are then those behind it.
func TestWhatIsDone(t *testing.T) {
	each(api.DefineOwnProperty, func(c claim) {
		d, may, e := desc.Apply(c.facts.Ext, c.ask.Desc, c.facts.Found, c.facts.Desc)
		if e != api.OK {
			t.Fatal(c.show(), int(e))
		}
		if may {
			c.facts.Found, c.facts.Desc = true, d
			holdWell(t, c, api.Out{Bool: c.answer.Bool})
		}
	})
	for _, ext := range bools() {
		holdWell(t, saying(api.Delete, true, none(ext)), api.Out{Bool: true})
		holdWell(t, putting(api.SetPrototypeOf, thing(3), true, post.Facts{Ext: ext, Proto: thing(3)}), api.Out{Bool: true})
	}
	holdWell(t, saying(api.PreventExtensions, true, none(false)), api.Out{Bool: true})
}

// What is delivered of a property is complete, and what is there may become so.
func TestWhatIsDelivered(t *testing.T) {
	each(api.GetOwnProperty, func(c claim) {
		out, well, e := post.Check(c.ask, c.answer, c.facts)
		if !well || e != api.OK || !out.Found {
			return
		}
		full, e := desc.Complete(out.Desc)
		if e != api.OK || !equalDesc(full, out.Desc) || out.Desc.Has&c.answer.Desc.Has != c.answer.Desc.Has {
			t.Error(c.show(), showOut(out), int(e))
		}
		if may, e := desc.Compatible(c.facts.Ext, out.Desc, c.facts.Found, c.facts.Desc); !may || e != api.OK {
			t.Error(c.show(), showOut(out), may, int(e))
		}
		// Told once more, it is delivered once more.
		c.answer.Desc = out.Desc
		holdWell(t, c, out)
	})
}

// Where the target takes no new ones, just its keys are delivered; and always each that can't go, none twice.
func TestKeysDelivered(t *testing.T) {
	each(api.OwnKeys, func(c claim) {
		out, well, e := post.Check(c.ask, c.answer, c.facts)
		if !well || e != api.OK {
			return
		}
		if !once(out.Keys) || !slices.Equal(out.Keys, c.answer.Keys) {
			t.Error(c.show(), showOut(out))
		}
		for i, k := range c.facts.Keys {
			stays := !c.facts.Ext || c.facts.Own[i].Has != 0 && !c.facts.Own[i].Configurable
			if stays && !slices.Contains(out.Keys, k) {
				t.Error(c.show(), showOut(out))
			}
		}
		if !c.facts.Ext && len(out.Keys) != len(c.facts.Keys) {
			t.Error(c.show(), showOut(out))
		}
	})
}

// What can't change is told as it is, whichever trap tells it.
func TestFixedIsTold(t *testing.T) {
	for _, d := range wholes() {
		if d.Configurable {
			continue
		}
		for _, ext := range bools() {
			f := one(ext, d)
			holdLie(t, missing(f))
			holdLie(t, saying(api.HasProperty, false, f))
			holdLie(t, saying(api.Delete, true, f))
			for _, v := range values() {
				if d.Writable || d.Has&12 != 0 {
					continue
				}
				holdRow(t, telling(api.Get, v, f), value.Same(v, d.Value))
				holdRow(t, putting(api.Set, v, true, f), value.Same(v, d.Value))
			}
		}
	}
}
