package heap_test

import (
	"fmt"
	"strings"
	"testing"

	"bailiff/api"
	"bailiff/heap"
)

// P11.4

const sevenText = "value 7, writable yes, enumerable yes, configurable yes"

func TestExampleOfText(t *testing.T) {
	holdText(t, two(), "0 plain open null \"a\":"+sevenText+"\n1 plain open object 0\n", api.OK)
}

func holdText(t *testing.T, h api.Heap, want string, e api.Errno) {
	t.Helper()
	got, g := heap.Text(h)
	if got != want || g != e {
		t.Error("Text", brief(h), len(got), got[:min(len(got), 3000)], int(g))
	}
}

func TestTextOfEachKind(t *testing.T) {
	h := house()
	h.Objects[aFunc].Ext = false
	h.Objects[anArray].Ext = false
	h.Objects[aBoxed].Text = "a\"\n"
	h.Objects[aBoxed].Props[0].Key = of("3")
	const all = ", writable yes, enumerable yes, configurable yes"
	lines := []string{
		`0 plain open null "a":` + sevenText,
		`1 function open object 0 "length":value 2, writable no, enumerable no, configurable no "prototype":value 1, writable yes, enumerable no, configurable no`,
		`2 native closed object 0 "name":value "f"` + all,
		`3 native open object 2`,
		`4 array closed object 0 "length":value 2, writable yes, enumerable no, configurable no "0":value object 5` + all + ` "1":value object 10` + all + ` "x":value NaN` + all,
		`5 boxed open object 4 "a\"\n" "3":value null` + all + ` "a":value undefined` + all,
		`6 proxy closed object 0 object 4`,
		`7 proxy closed object 1 object 0`,
		`8 proxy closed object 2 object 1`,
		`9 proxy closed null null`,
		`10 proxy closed null null`,
		`11 proxy closed null null`,
		`12 native open object 2`,
		`13 native open object 0`,
		`14 proxy closed object 6 object 7`,
		`15 plain closed object 6 "g":get object 2, set object 3, enumerable yes, configurable yes symbol 0:value object 1` + all + ` "h":get undefined, set undefined, enumerable yes, configurable yes`,
	}
	holdText(t, h, strings.Join(lines, "\n")+"\n", api.OK)
}

func TestText(t *testing.T) {
	holdText(t, api.Heap{}, "", api.OK)
	holdText(t, heapOf(boxed(null, "")), "0 boxed open null \"\"\n", api.OK)
	holdText(t, heapOf(boxed(null, "\xff\\ \x00")), "0 boxed open null \"\\xff\\\\ \\x00\"\n", api.OK)
	holdText(t, heapOf(plain(null, of("a b\n"), stuck(-1), of(""), stuck(0))), "0 plain open null \"a b\\n\":value -1, writable no, enumerable no, configurable no \"\":value 0, writable no, enumerable no, configurable no\n", api.OK)
	var want strings.Builder
	for n := range api.MaxObjects {
		fmt.Fprintf(&want, "%d plain closed null\n", n)
	}
	holdText(t, many(api.MaxObjects), want.String(), api.OK)
}

// most is a heap whose text has as many bytes as it may, and so many more, by how long a string of its last object is.
func most(more int, last func(s string) api.Object) api.Heap {
	var l []api.Object
	for range 517 {
		l = append(l, boxed(null, long(2000)))
	}
	s, _ := heap.Text(heapOf(append(l, last(""))...))
	return heapOf(append(l, last(long(api.MaxAnswer-len(s)+more)))...)
}

// The last byte that is too many stands in each part of what is told of an object: ahead of its properties, in one of these, and at its end.
func TestTextOfMost(t *testing.T) {
	for i, last := range []func(s string) api.Object{
		func(s string) api.Object { return boxed(null, s) },
		func(s string) api.Object { return boxed(null, s, of("a"), usual(text("b"))) },
		func(s string) api.Object { return plain(null, of("a"), usual(text(s))) },
		func(s string) api.Object { return plain(null, of("a"), usual(text("b")), of(s+"x"), stuck(1)) },
		func(s string) api.Object { return array(null, 1, of(s+"x"), usual(text("b")), of("0"), stuck(1)) },
	} {
		for _, more := range []int{-2, -1, 0} {
			s, e := heap.Text(most(more, last))
			if e != api.OK || len(s) != api.MaxAnswer+more {
				t.Error(i, more, len(s), int(e))
			}
		}
		for _, more := range []int{1, 2, 3, 60, 200} {
			h := most(more, last)
			if !well(h) {
				t.Error(i, more)
			}
			holdText(t, h, "", api.ErrMany)
			h.Objects = append(h.Objects, plain(null), plain(null))
			holdText(t, h, "", api.ErrMany)
		}
	}
}

// A text that would have thousands of millions of bytes is refused as well, and soon.
func TestTextOfFarTooMany(t *testing.T) {
	shared := these(api.MaxProps)
	for i := range shared {
		shared[i].Desc.Value = text(strings.Repeat("\x00", api.MaxString))
	}
	h := many(64)
	for n := range h.Objects {
		h.Objects[n].Props = shared
	}
	holdText(t, h, "", api.ErrMany)
}
