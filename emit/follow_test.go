package emit_test

import (
	"slices"
	"strings"
	"testing"
	"unsafe"

	"bailiff/api"
	"bailiff/emit"
	"bailiff/parse"
	"bailiff/scope"
)

// follows holds a tree's codes against the model, and against what follows (P6.5).
func follows(t *testing.T, s string, tree api.Tree) []api.Code {
	t.Helper()
	l, e := emit.Codes(tree)
	if e != api.OK {
		t.Fatalf("%q: %d", s, int(e))
	}
	if got, want := listing(l), modelled(tree); !slices.Equal(got, want) {
		t.Fatalf("%q:\n%s\nnot\n%s", s, strings.Join(got, "\n"), strings.Join(want, "\n"))
	}
	if e := emit.Check(l); e != api.OK {
		t.Fatalf("%q: may not be: %d", s, int(e))
	}
	functions := 0
	for _, x := range tree.Nodes {
		if x.Kind == api.NFunction || x.Kind == api.NFunc {
			functions++
		}
	}
	if len(l) != functions+1 {
		t.Fatalf("%q: %d codes", s, len(l))
	}
	for i, c := range l {
		last := c.Instrs[len(c.Instrs)-1]
		if want := map[bool]string{true: "end", false: "return"}[i == 0]; last != (api.Instr{Op: op(want)}) {
			t.Fatalf("%q: code %d ends with %v", s, i, last)
		}
	}
	return l
}

// Texts of all kinds of nodes. Each Op and each operation that a tree can come to is met.
func TestMadeTexts(t *testing.T) {
	ops, operations := map[string]int{}, map[string]int{}
	texts, earlies := 0, 0
	for seed := range uint64(2500) {
		s := newMade(seed, 5+int(seed%150)).script()
		tree, at, e := parse.Parse(s)
		if e != api.OK {
			t.Fatalf("%d at %d: %s", int(e), at, s)
		}
		texts++
		if _, e := scope.Check(tree); e != api.OK {
			earlies++
			refused(t, tree, e)
			continue
		}
		for _, c := range follows(t, s, tree) {
			for _, i := range c.Instrs {
				ops[called(i.Op)]++
				if i.Op == op("op") {
					operations[names[i.A]]++
				}
			}
		}
	}
	if earlies == 0 || earlies > texts/2 {
		t.Error(texts, earlies)
	}
	if len(ops) != len(rows) || len(operations) != len(names)-2 {
		t.Error(len(ops), ops, len(operations), operations)
	}
}

// Every text of a few pieces.
func TestShortTexts(t *testing.T) {
	pieces := strings.Split("a;|let b = a;|const c = 1;|{|}|} else {|if (a) {|function d(b) {|(function e() {|});|while (a) {|for (let a of a) {|for (const a in b) {|try {|} catch (e) {|} finally {|break;|continue;|return a;|throw a;|a.b += a();", "|")
	texts := 0
	var add func(string, int, int)
	add = func(s string, depth, left int) {
		if depth == 0 {
			if tree, _, e := parse.Parse(s); e == api.OK {
				if _, e := scope.Check(tree); e == api.OK {
					texts++
					follows(t, s, tree)
				}
			}
		}
		if left == 0 {
			return
		}
		for _, p := range pieces {
			if d := depth + strings.Count(p, "{") - strings.Count(p, "}"); d >= 0 && d <= left-1 {
				add(s+" "+p, d, left-1)
			}
		}
	}
	add("", 0, 4)
	if texts < 1900 {
		t.Error(texts)
	}
}

// P6.4

// roomy is a tree whose lists have spare room, in which its own numbers stand.
func roomy(t api.Tree) api.Tree {
	c := api.Tree{Nodes: make([]api.Node, len(t.Nodes), len(t.Nodes)+3)}
	for n, x := range t.Nodes {
		kids := slices.Grow(slices.Clone(x.Kids), 8)
		for i := range kids[:cap(kids)][len(x.Kids):] {
			kids[:cap(kids)][len(x.Kids)+i] = -9
		}
		x.Kids = kids
		c.Nodes[n] = x
	}
	return c
}

func TestTreeOnlyRead(t *testing.T) {
	for seed := range uint64(50) {
		tree := parsed(t, newMade(seed, 100).script())
		room := roomy(tree)
		emit.Codes(room)
		for n, x := range room.Nodes {
			y := tree.Nodes[n]
			if x.Kind != y.Kind || x.At != y.At || x.Text != y.Text || x.Num != y.Num || !slices.Equal(x.Kids, y.Kids) {
				t.Error(n, x, y)
			}
			for _, k := range x.Kids[:cap(x.Kids)][len(x.Kids):] {
				if k != -9 {
					t.Error(n, x.Kids[:cap(x.Kids)])
				}
			}
		}
		for _, x := range room.Nodes[len(room.Nodes):cap(room.Nodes)] {
			if x.Kind != 0 || x.Text != "" || x.Kids != nil {
				t.Error(x)
			}
		}
	}
}

// clone is a list of codes in memory of its own, with spare room in which something stands.
func clone(l []api.Code) []api.Code {
	out := make([]api.Code, 0, len(l)+2)
	for _, c := range l {
		c.Instrs = append(slices.Clone(c.Instrs), api.Instr{Op: 99, A: -9, B: -9})[:len(c.Instrs)]
		c.Consts = append(slices.Clone(c.Consts), api.Value{Kind: 99})[:len(c.Consts)]
		c.Names = append(slices.Clone(c.Names), "spare")[:len(c.Names)]
		out = append(out, c)
	}
	return out
}

func same(a, b []api.Code) bool {
	return slices.EqualFunc(a, b, func(x, y api.Code) bool {
		return slices.Equal(x.Instrs, y.Instrs) && slices.Equal(x.Consts, y.Consts) && slices.Equal(x.Names, y.Names) && x.Params == y.Params && x.Slots == y.Slots
	})
}

func TestCodesOnlyRead(t *testing.T) {
	for seed := range uint64(50) {
		tree := parsed(t, newMade(seed, 100).script())
		l, _ := emit.Codes(tree)
		for i := range l {
			if seed%2 == 1 && len(l[i].Instrs) > 3 {
				l[i].Instrs[2] = api.Instr{Op: op("resume")}
			}
		}
		room := clone(l)
		emit.Check(room)
		emit.Text(room)
		for _, c := range room {
			emit.High(c)
		}
		if !same(room, l) {
			t.Error(seed, listing(room))
		}
		for _, c := range room {
			if c.Instrs[:len(c.Instrs)+1][len(c.Instrs)] != (api.Instr{Op: 99, A: -9, B: -9}) || c.Consts[:len(c.Consts)+1][len(c.Consts)].Kind != 99 || c.Names[:len(c.Names)+1][len(c.Names)] != "spare" {
				t.Error(seed, "spare room")
			}
		}
	}
}

// A string of an answer is none of the tree's own: that would hold the whole text.
func TestNewStrings(t *testing.T) {
	tree := parsed(t, "aa; 'bb'; aa.cc; ({dd: 'ee', get 'ff'() {}});")
	l, _ := emit.Codes(tree)
	for _, c := range l {
		all := slices.Clone(c.Names)
		for _, v := range c.Consts {
			all = append(all, v.Str)
		}
		for _, s := range all {
			for _, x := range tree.Nodes {
				if s != "" && x.Text == s && unsafe.StringData(x.Text) == unsafe.StringData(s) {
					t.Error(s, "is the tree's own")
				}
			}
		}
	}
}

// Nothing that one list is filled with, up to the end of its room, comes up in another one, or in a later answer.
func TestNewMemory(t *testing.T) {
	tree := parsed(t, "a; 'b'; b.c; function f(d) { e; 'g'; ({h: 1}); } (function () { a; });")
	first, _ := emit.Codes(tree)
	second, _ := emit.Codes(tree)
	kept := clone(second)
	for _, c := range first {
		all := c.Instrs[:cap(c.Instrs)]
		for i := range all {
			all[i] = api.Instr{Op: 99}
		}
		clear(c.Consts[:cap(c.Consts)])
		clear(c.Names[:cap(c.Names)])
	}
	if !same(second, kept) {
		t.Error("shared")
	}
	third, _ := emit.Codes(tree)
	if !same(third, kept) {
		t.Error("kept")
	}
	for i := range third {
		c := &third[i]
		c.Instrs = append(c.Instrs, api.Instr{Op: 99})
		c.Consts = append(c.Consts, api.Value{Kind: 99})
		c.Names = append(c.Names, "more")
		for k, d := range third {
			if k > i && !same([]api.Code{d}, []api.Code{kept[k]}) {
				t.Error("shared", i, k)
			}
		}
	}
}
