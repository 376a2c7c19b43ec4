package post_test

import (
	"fmt"
	"slices"
	"testing"

	"bailiff/api"
	"bailiff/post"
)

// P15.3

// roomy is a list in memory of its own, with room behind it, in which something stands.
func roomy[T any](l []T, more ...T) []T {
	return append(slices.Clone(l), more...)[:len(l)]
}

func (c claim) roomy() claim {
	c.ask.Args = roomy(c.ask.Args, number(1), number(2))
	c.answer.Keys = roomy(c.answer.Keys, keyOf("room"), keyOf("more"))
	c.facts.Keys = roomy(c.facts.Keys, keyOf("place"), keyOf("rest"))
	c.facts.Own = roomy(c.facts.Own, fixed(null), loose(null))
	return c
}

func room[T any](l []T) []T { return l[:cap(l)] }

// whole is all that a claim's memory has, its room included.
func (c claim) whole() string {
	s := c.show()
	for _, v := range room(c.ask.Args) {
		s += showValue(v)
	}
	for _, k := range append(slices.Clone(room(c.answer.Keys)), room(c.facts.Keys)...) {
		s += showKeys([]api.Key{k})
	}
	for _, d := range room(c.facts.Own) {
		s += showDesc(d)
	}
	return s
}

// spoil writes over all of a claim's memory.
func (c claim) spoil() {
	spoilKeys(c.answer.Keys)
	spoilKeys(c.facts.Keys)
	for i := range room(c.facts.Own) {
		room(c.facts.Own)[i] = api.Desc{Has: 255}
	}
	for i := range room(c.ask.Args) {
		room(c.ask.Args)[i] = text("junk")
	}
}

func spoilKeys(l []api.Key) {
	l = room(l)
	for i := range l {
		l[i] = keyOf("junk")
	}
}

// checked is all that Check answers, and the keys once more, all of them, as a text.
func checked(c claim) (api.Out, string) {
	out, well, e := post.Check(c.ask, c.answer, c.facts)
	return out, fmt.Sprint(showOut(out), out.Keys, well, int(e))
}

// misuse tells what is wrong with what Check leaves of what it is handed, and with the memory of what it answers.
func misuse(c claim) string {
	c = c.roomy()
	was := c.whole()
	first, want := checked(c)
	if c.whole() != was {
		return "changes what is handed in"
	}
	again, _ := checked(c)
	spoilKeys(first.Keys)
	if c.whole() != was {
		return "answers what is handed in"
	}
	if !slices.Equal(again.Keys, c.answer.Keys) && len(again.Keys) > 0 {
		return "answers one memory twice"
	}
	if _, s := checked(c); s != want {
		return "keeps what it answered"
	}
	keys := slices.Clone(again.Keys)
	c.spoil()
	if !slices.Equal(again.Keys, keys) {
		return "answers what hangs on what is handed in"
	}
	return ""
}

func holdMemory(t *testing.T, c claim) {
	t.Helper()
	c.ask.Args = values()
	if s := misuse(c); s != "" {
		t.Error(c.show(), s)
	}
}

func TestMemory(t *testing.T) {
	n := 0
	for method := range uint8(16) {
		each(method, func(c claim) {
			if n++; n%97 == 0 {
				holdMemory(t, c)
			}
		})
		for _, c := range bases(method) {
			holdMemory(t, c)
			for _, f := range faults(method) {
				bad := c
				f.spoil[0](&bad)
				holdMemory(t, bad)
			}
		}
	}
}

// One list may be told and there: what is delivered is still a list of its own.
func TestMemoryThatIsShared(t *testing.T) {
	l := keysOf("a", "b", "@")
	own := []api.Desc{fixed(null), {}, loose(null)}
	out, well, e := post.Check(api.Ask{Method: api.OwnKeys}, api.Out{Kind: api.Done, Keys: l}, post.Facts{Keys: l, Own: own})
	if !well || e != api.OK || !slices.Equal(out.Keys, l) {
		t.Fatal(showOut(out), well, int(e))
	}
	spoilKeys(out.Keys)
	if !slices.Equal(l, keysOf("a", "b", "@")) {
		t.Error(showKeys(l))
	}
	_ = append(out.Keys, keyOf("c"))
	if !slices.Equal(l, keysOf("a", "b", "@")) {
		t.Error(showKeys(l))
	}
}
