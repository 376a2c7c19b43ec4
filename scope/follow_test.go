package scope_test

import (
	"slices"
	"strings"
	"testing"

	"bailiff/api"
	"bailiff/parse"
	"bailiff/scope"
)

// modelled holds what all calls tell of a tree against the model, and tells whether it has an early error.
func modelled(t *testing.T, s string, tree api.Tree) bool {
	t.Helper()
	m := newModel(tree)
	if n := m.early(); n >= 0 {
		if at, e := scope.Check(tree); at != tree.Nodes[n].At || e != api.ErrEarly {
			t.Fatalf("%q: %d at %d, not at %d", s, int(e), at, tree.Nodes[n].At)
		}
		return true
	}
	if at, e := scope.Check(tree); at != 0 || e != api.OK {
		t.Fatalf("%q: %d at %d", s, int(e), at)
	}
	if l, e := scope.Slots(tree); e != api.OK || !slices.Equal(l, m.slots()) {
		t.Fatalf("%q: %d %v, not %v", s, int(e), l, m.slots())
	}
	if l, e := scope.Frees(tree); e != api.OK || !slices.Equal(l, m.frees()) {
		t.Fatalf("%q: %d %v, not %v", s, int(e), l, m.frees())
	}
	nodes, names := m.scopes()
	if k, l, e := scope.Scopes(tree); e != api.OK || !slices.Equal(k, nodes) || !slices.Equal(l, names) {
		t.Fatalf("%q: %d %v %v, not %v %v", s, int(e), k, l, nodes, names)
	}
	follows(t, s, tree)
	return false
}

// P5.5

// follows holds what is told of a tree without early errors against what follows.
func follows(t *testing.T, s string, tree api.Tree) {
	t.Helper()
	m := newModel(tree)
	slots := must(scope.Slots(tree))
	free := must(scope.Frees(tree))
	nodes, names, _ := scope.Scopes(tree)
	numbers := map[string]map[int]int{}
	for n, x := range slots {
		if x.Hops == -1 && free[x.Index] != tree.Nodes[n].Text {
			t.Fatalf("%q: node %d: %v", s, n, x)
		}
		if x.Hops < 0 {
			continue
		}
		in := m.about(n)[x.Hops]
		at, is := slices.BinarySearch(nodes, in)
		if !is || x.Index < 0 || x.Index >= names[at] {
			t.Fatalf("%q: node %d: %v", s, n, x)
		}
		of := numbers[tree.Nodes[n].Text]
		if of == nil {
			of = map[int]int{}
			numbers[tree.Nodes[n].Text] = of
		}
		if had, is := of[in]; is && had != x.Index {
			t.Fatalf("%q: node %d: %v, not %d", s, n, x, had)
		}
		of[in] = x.Index
	}
}

// Every text of a few pieces, of one name.
func TestShortTexts(t *testing.T) {
	pieces := strings.Split("let a;|const a = 1;|a = a;|{|}|} let a;|function a(a) {|(function a() {|});|while (a) {|for (const a of a = 1) {|try {} catch (a) {|} finally {|try {|break;|return;|delete a;", "|")
	texts, earlies := 0, 0
	var add func(string, int, int)
	add = func(s string, depth, left int) {
		if depth == 0 && s != "" {
			if tree, _, e := parse.Parse(s); e == api.OK {
				texts++
				if modelled(t, s, tree) {
					earlies++
				}
			}
		}
		if left == 0 {
			return
		}
		for _, p := range pieces {
			if d := depth + strings.Count(p, "{") - strings.Count(p, "}"); d >= 0 && d <= left-1 {
				add(s+" "+p, d, left-1)
			}
		}
	}
	add("", 0, 5)
	if texts < 20000 || earlies < 1000 || texts-earlies < 1000 {
		t.Error(texts, earlies)
	}
}

// Texts of all kinds of nodes, of few names, with few early errors or many.
func TestMadeTexts(t *testing.T) {
	texts, earlies, names := 0, 0, 0
	for seed := range uint64(6000) {
		s := newMade(seed, 5+int(seed%90), 3+int(seed%5)*40).script()
		tree, at, e := parse.Parse(s)
		if e != api.OK {
			t.Fatalf("%d at %d: %s", int(e), at, s)
		}
		texts++
		if modelled(t, s, tree) {
			earlies++
			continue
		}
		for _, x := range must(scope.Slots(tree)) {
			if x.Hops > 1 {
				names++
			}
		}
	}
	if earlies < texts/5 || texts-earlies < texts/5 || names < texts/5 {
		t.Error(texts, earlies, names)
	}
}

// A tree without names has no early error but of break, continue and return.
func TestNoNames(t *testing.T) {
	pieces := strings.Split("{|}|while (1) {|(function () {|});|({ get a() {|} });|try {|} finally {|1 + this.a;|delete 1;|[].a = 1;|break;|continue;|return;", "|")
	earlies := 0
	var add func(string, int, int)
	add = func(s string, depth, left int) {
		if tree, _, e := parse.Parse(s); depth == 0 && e == api.OK {
			at, e := scope.Check(tree)
			if e == api.ErrEarly {
				earlies++
				if word, _, _ := strings.Cut(s[at:], ";"); word != "break" && word != "continue" && word != "return" {
					t.Fatal(s, at)
				}
			} else if e != api.OK || at != 0 {
				t.Fatal(s, at, int(e))
			}
			if l := must(scope.Frees(parsed(t, strings.NewReplacer("break", "", "continue", "", "return", "").Replace(s)))); len(l) != 0 {
				t.Fatal(s, l)
			}
		}
		if left == 0 {
			return
		}
		for _, p := range pieces {
			add(s+" "+p, depth+strings.Count(p, "{")-strings.Count(p, "}"), left-1)
		}
	}
	add("", 0, 4)
	if earlies < 1000 {
		t.Error(earlies)
	}
}
