package scope_test

import (
	"slices"
	"strconv"
	"strings"
	"testing"
	"unsafe"

	"bailiff/api"
	"bailiff/parse"
	"bailiff/scope"
)

func times(s string, n int) string { return strings.Repeat(s, n) }

func parsed(t *testing.T, s string) api.Tree {
	t.Helper()
	tree, at, e := parse.Parse(s)
	if e != api.OK {
		t.Fatalf("%.60q: %d at %d", s, int(e), at)
	}
	return tree
}

// refused holds what all calls tell of a tree against an error and its place.
func refused(t *testing.T, tree api.Tree, place int, want api.Errno) {
	t.Helper()
	if at, e := scope.Check(tree); at != place || e != want {
		t.Errorf("Check: %d at %d, not %d at %d", int(e), at, int(want), place)
	}
	if l, e := scope.Slots(tree); len(l) != 0 || e != want {
		t.Errorf("Slots: %d %v", int(e), l)
	}
	if l, e := scope.Frees(tree); len(l) != 0 || e != want {
		t.Errorf("Frees: %d %v", int(e), l)
	}
	if k, l, e := scope.Scopes(tree); len(k) != 0 || len(l) != 0 || e != want {
		t.Errorf("Scopes: %d %v %v", int(e), k, l)
	}
}

// early has its first early error where its @ stands.
func early(t *testing.T, s string) {
	t.Helper()
	ahead, behind, is := strings.Cut(s, "@")
	if !is {
		t.Fatal(s)
	}
	if at, e := scope.Check(parsed(t, ahead+behind)); at != len(ahead) || e != api.ErrEarly {
		t.Errorf("%.60q: %d at %d", s, int(e), at)
	}
}

func well(t *testing.T, l ...string) {
	t.Helper()
	for _, s := range l {
		if at, e := scope.Check(parsed(t, s)); at != 0 || e != api.OK {
			t.Errorf("%.60q: %d at %d", s, int(e), at)
		}
	}
}

// slots holds the slots of a text's names against a list of them, in the order of the nodes: each name, Hops and Index.
func slots(t *testing.T, s, want string) {
	t.Helper()
	tree := parsed(t, s)
	l, e := scope.Slots(tree)
	if e != api.OK || len(l) != len(tree.Nodes) {
		t.Errorf("%.60q: %d, %d slots", s, int(e), len(l))
		return
	}
	var got []string
	for n, x := range l {
		if x.Hops != -2 {
			got = append(got, tree.Nodes[n].Text+" "+strconv.Itoa(x.Hops)+" "+strconv.Itoa(x.Index))
		} else if x.Index != 0 {
			t.Errorf("%.60q: node %d: %v", s, n, x)
		}
	}
	if strings.Join(got, ", ") != want {
		t.Errorf("%.60q: %s", s, strings.Join(got, ", "))
	}
}

func frees(t *testing.T, s, want string) {
	t.Helper()
	l, e := scope.Frees(parsed(t, s))
	if e != api.OK || strings.Join(l, " ") != want {
		t.Errorf("%.60q: %d %q", s, int(e), l)
	}
}

// scopes holds a text's scopes against a list of them: each node's kind and number, how many names.
func scopes(t *testing.T, s, want string) {
	t.Helper()
	tree := parsed(t, s)
	nodes, names, e := scope.Scopes(tree)
	if e != api.OK || len(nodes) != len(names) {
		t.Errorf("%.60q: %d %v %v", s, int(e), nodes, names)
		return
	}
	var got []string
	for i, n := range nodes {
		got = append(got, parse.Kind(tree.Nodes[n].Kind)+" "+strconv.Itoa(n)+" "+strconv.Itoa(names[i]))
	}
	if strings.Join(got, ", ") != want {
		t.Errorf("%.60q: %s", s, strings.Join(got, ", "))
	}
}

func TestExamples(t *testing.T) {
	for _, c := range []struct {
		s  string
		at int
	}{
		{"let a = 1; let a = 2;", 11}, {"a = 1;", 0}, {"const a = 1; a = 2;", 13},
		{"break;", 0}, {"while (a) { function f() { break; } }", 27}, {"return;", 0}, {"delete a;", 0},
		{"function f(a, a) {}", 14}, {"function f(a) { let a; }", 16}, {"try {} catch (e) { let e; }", 19},
	} {
		refused(t, parsed(t, c.s), c.at, api.ErrEarly)
	}
	well(t, "let a; { let a; a = 1; } function f(a) { a = 2; }")
	slots(t, "let a; { b; a; }", "a 0 0, b -1 0, a 1 0")
	frees(t, "x; let y; a; x;", "a x")
	scopes(t, "let a; { let b; }", "script 0 1, block 2 1")
	slots(t, "(function f() { f; });", "f 0 0")
}

// P5.1

func TestTwice(t *testing.T) {
	early(t, "let a; @const a = 1;")
	early(t, "const a = 1; @let a;")
	early(t, "let a; @function a() {}")
	early(t, "function a() {} @function a() {}")
	early(t, "function a() {} ; @let a;")
	early(t, "let a; let b; @let a; let b;")
	early(t, "{ let a; @let a; }")
	early(t, "let a; { let a; { let a; @let a; } let a; }")
	early(t, "while (a) { let a; @let a; }")
	early(t, "if (a) ; else { let a; @let a; }")
	early(t, "for (let a of b) { let a; @const a = 1; }")
	early(t, "try { let a; @let a; } finally {}")
	early(t, "try {} finally { let a; @let a; }")
	early(t, "try {} catch (e) { let a; @let a; }")
	early(t, "try {} catch (e) { @function e() {} }")
	early(t, "function f(a, b, @a) {}")
	early(t, "function f(a) { let b; @const a = 1; }")
	early(t, "function f(a) { @function a() {} }")
	early(t, "function f() { let a; @let a; }")
	early(t, "(function (a, @a) {});")
	early(t, "(function f(a) { @let a; });")
	early(t, "(function f() { let f; @let f; });")
	early(t, "(function f(f) { @let f; });")
	early(t, "(function f(f, @f) {});")
	early(t, "({ set a(b) { @let b; } });")
	early(t, "({ get a() { let b; @let b; } });")
	early(t, "let a = function () { let a; @let a; }; let a;")
	early(t, "function f() { let a; @let a; } let f;")
	early(t, "let f; @function f() { let a; let a; }")
	well(t, "let a; { const a = 1; { function a() {} } }",
		"{ let a; } { let a; }",
		"function f(f) {}",
		"function f() { let f; }",
		"function f(a) { { let a; } }",
		"(function f(f) {});",
		"(function f() { const f = 1; });",
		"(function f() {}); let f;",
		"let f; (function f() {});",
		"for (let a of b) { let a; }",
		"for (let a of b) for (let a in a) { let a; }",
		"for (const a of b) ; let a;",
		"let e; try { let e; } catch (e) { { let e; } } finally { let e; }",
		"try {} catch (e) { try {} catch (e) { } }",
		"let a; a.a; ({ a: a, get a() {}, set a(a) {} });",
		"let a; let A; let a1; let $a; let _a;")
}

func TestAssigned(t *testing.T) {
	for _, sign := range []string{"=", "+=", "-=", "*=", "/=", "%="} {
		early(t, "@a "+sign+" 1;")
		early(t, "const a = 1; @a "+sign+" 1;")
		well(t, "let a; a "+sign+" 1;", "let b; b.a "+sign+" a; a.b "+sign+" a; a[b] "+sign+" a;")
	}
	early(t, "const a = 1; ((@a)) = 2;")
	early(t, "let b; b = @a = 1;")
	early(t, "let b; b.c = [@a = 1];")
	early(t, "@a = 1; const a = 2;")
	early(t, "function f() { @a = 1; } const a = 2;")
	early(t, "let a; { @a = 1; const a = 2; }")
	early(t, "{ let a; } @a = 1;")
	early(t, "function f(a) {} @a = 1;")
	early(t, "try { let a; } catch (e) { @a = 1; }")
	early(t, "try {} catch (e) {} @e = 1;")
	early(t, "try {} catch (e) {} finally { @e = 1; }")
	early(t, "for (const a of b) { @a = 1; }")
	early(t, "for (const a in b) @a = 1;")
	early(t, "for (let a of @a = 1) ;")
	early(t, "const a = 1; for (let a of @a = 1) ;")
	early(t, "for (let a of b) ; @a = 1;")
	early(t, "(function f() { @f = 1; });")
	early(t, "(function f() { function g(a) { { @f += 1; } } });")
	early(t, "(function f() {}); @f = 1;")
	early(t, "let f; (function f() { @f = 1; });")
	early(t, "const c = 1; function f(a) { a = c; { @c = a; } }")
	early(t, "@undefined = 1;")
	// Where a name is twice in its scope it is a Const if one of both is; and what stands ahead of the second one comes first.
	early(t, "@a = 1; let a; const a = 2;")
	early(t, "@a = 1; const a = 2; let a;")
	early(t, "a = 1; let a; @let a;")
	early(t, "(function f(a) { @a = 1; const a = 2; });")
	well(t, "let a; a = 1;",
		"a_ = 1; let a_;",
		"function f() { a = 1; } let a;",
		"function f() { f = 1; } f = 2;",
		"function f(a) { a = 1; }",
		"try {} catch (e) { e = 1; }",
		"for (let a of b) a = 1;",
		"let a; for (const a of a = 1) ;",
		"const a = 1; { let a; a = 2; } for (let a in a) a = 2; try {} catch (a) { a = 2; } function f(a) { a = 2; }",
		"(function f(f) { f = 1; });",
		"(function f() { f = 1; let f; });",
		"(function f() { function f() {} f = 1; });",
		"let f; (function () { f = 1; });",
		"({ set a(b) { b = 1; } });",
		"const a = 1; a.b = 1; a[0] = 1; a == 1; a <= 1;")
}

func TestJumps(t *testing.T) {
	for _, word := range []string{"break", "continue"} {
		early(t, "@"+word+";")
		early(t, "{ @"+word+"; }")
		early(t, "if (a) @"+word+";")
		early(t, "while (a) ; @"+word+";")
		early(t, "for (let a of b) {} @"+word+";")
		early(t, "function f() { @"+word+"; }")
		early(t, "try { @"+word+"; } finally {}")
		early(t, "while (a) { function f() { @"+word+"; } }")
		early(t, "while (a) (function () { @"+word+"; });")
		early(t, "while (a) ({ get a() { @"+word+"; } });")
		early(t, "while (a) ({ set a(b) { @"+word+"; } });")
		early(t, "while (function () { @"+word+"; }) ;")
		early(t, "for (let a of function () { @"+word+"; }) ;")
		early(t, "for (let a in b) { (function () { while (a) {} @"+word+"; }); }")
		early(t, "while (a) { function f() { while (a) { "+word+"; } } "+word+"; } @"+word+";")
		well(t, "while (a) "+word+";",
			"for (let a in b) "+word+";",
			"for (const a of b) "+word+";",
			"while (a) { { if (b) "+word+"; else "+word+"; } }",
			"for (let a of b) { try { "+word+"; } catch (e) { "+word+"; } finally { "+word+"; } }",
			"while (a) { function f() { for (let a of b) "+word+"; } "+word+"; }",
			"while (a) { while (b) ; "+word+"; }",
			"for (let a of b) for (let c of (function () { while (a) "+word+"; })) { "+word+"; }")
	}
}

func TestReturn(t *testing.T) {
	early(t, "@return 1;")
	early(t, "{ while (a) { @return; } }")
	early(t, "function f() { return; } @return;")
	early(t, "(function () { return; }); @return;")
	early(t, "try {} catch (e) { @return e; }")
	well(t, "function f() { return; }",
		"(function () { while (a) { try { return; } finally { return 1; } } });",
		"({ get a() { return 1; }, set b(c) { return; } });",
		"function f() { function g() { return; } return function () { return f; }; }")
}

func TestDelete(t *testing.T) {
	early(t, "let a; @delete a;")
	early(t, "function f(a) { @delete a; }")
	early(t, "@delete ((a));")
	early(t, "!typeof @delete a;")
	early(t, "delete @delete a;")
	early(t, "a[@delete b];")
	well(t, "delete a.b; delete a[b]; delete a(); delete 1; delete this; delete (a + b); delete !a; delete (function a() {});",
		"typeof a; void a; !a; -a; +a; ~a;", "a.delete;")
}

// What comes first is told by the nodes' numbers: not by the kind of error, and not by where a scope begins.
func TestFirst(t *testing.T) {
	early(t, "@break; let a; let a;")
	early(t, "let a; @let a; break;")
	early(t, "@return; a = 1;")
	early(t, "@a = delete b;")
	early(t, "@return delete a;")
	early(t, "let b; b.a = @delete b;")
	early(t, "@delete a; delete b;")
	early(t, "function f(a, @a) { break; }")
	early(t, "{ { @c = 1; } let b; let b; } let a; let a;")
	early(t, "let a = @b = 1; let a;")
	early(t, "let a; @let a = b = 1;")
	early(t, "for (let a of @b = 1) { break; let c; let c; }")
	early(t, "let x; for (let a of x) { let c; @let c; } x.y = delete x;")
	early(t, "try { @return; } catch (e) { let e; }")
	early(t, "while (@a = 1) b = 1;")
}

// A place is what the node says, whatever that is: parse.Check does not look at it.
func TestPlaces(t *testing.T) {
	tree := parsed(t, "let a; let a; break;")
	for _, at := range []int{-7, 0, 1 << 40} {
		tree.Nodes[2].At = at
		refused(t, tree, at, api.ErrEarly)
	}
	tree = parsed(t, "let a; a;")
	for n := range tree.Nodes {
		tree.Nodes[n].At = -1
	}
	if at, e := scope.Check(tree); at != 0 || e != api.OK {
		t.Error(at, int(e))
	}
}

func TestRefusedTrees(t *testing.T) {
	early := parsed(t, "let a; let a;")
	changed := func(change func([]api.Node)) api.Tree {
		tree := parsed(t, "let a; for (let b of c) { return d; }")
		change(tree.Nodes)
		return tree
	}
	deep := parsed(t, times("{", api.MaxNest)+times("}", api.MaxNest))
	for n := range deep.Nodes {
		deep.Nodes[n].Kids = []int{n + 1}
	}
	deep.Nodes = append(deep.Nodes, api.Node{Kind: api.NBreak})
	for i, c := range []struct {
		tree api.Tree
		want api.Errno
	}{
		{api.Tree{}, api.ErrSyntax},
		{api.Tree{Nodes: make([]api.Node, 1)}, api.ErrSyntax},
		{api.Tree{Nodes: []api.Node{{Kind: api.NBreak}}}, api.ErrSyntax},
		{api.Tree{Nodes: []api.Node{{Kind: api.NScript, Kids: []int{0}}}}, api.ErrSyntax},
		{api.Tree{Nodes: []api.Node{{Kind: api.NScript, Kids: []int{-1}}}}, api.ErrSyntax},
		{api.Tree{Nodes: []api.Node{{Kind: api.NScript, Kids: []int{1 << 40}}}}, api.ErrSyntax},
		{api.Tree{Nodes: append(slices.Clone(early.Nodes), api.Node{Kind: api.NEmpty})}, api.ErrSyntax},
		{api.Tree{Nodes: append(slices.Clone(early.Nodes), make([]api.Node, api.MaxNodes)...)}, api.ErrMany},
		{changed(func(l []api.Node) { l[1].Text = "" }), api.ErrSyntax},
		{changed(func(l []api.Node) { l[1].Text = "let" }), api.ErrSyntax},
		{changed(func(l []api.Node) { l[1].Kind = api.NConst }), api.ErrSyntax},
		{changed(func(l []api.Node) { l[2].Kids = l[2].Kids[:2] }), api.ErrSyntax},
		{changed(func(l []api.Node) { l[3].Kind = api.NName }), api.ErrSyntax},
		{changed(func(l []api.Node) { l[4].Text = "" }), api.ErrSyntax},
		{changed(func(l []api.Node) { l[6].Kind = 200 }), api.ErrSyntax},
		{deep, api.ErrDeep},
	} {
		if e := parse.Check(c.tree); e != c.want {
			t.Error(i, int(e))
		}
		refused(t, c.tree, 0, c.want)
	}
	refused(t, changed(func([]api.Node) {}), 26, api.ErrEarly)
}

// P5.2

func TestSlots(t *testing.T) {
	slots(t, "", "")
	slots(t, "a;", "a -1 0")
	slots(t, "b; a; b; c.d; a;", "b -1 1, a -1 0, b -1 1, c -1 2, a -1 0")
	slots(t, "let a; let b; const c = b; a; c;", "a 0 0, b 0 1, c 0 2, b 0 1, a 0 0, c 0 2")
	slots(t, "a; b; let a; function b() { a; b; c; } const c = a;", "a 0 0, b 0 1, a 0 0, b 0 1, a 1 0, b 1 1, c 1 2, c 0 2, a 0 0")
	slots(t, "{ {} { { a; } } let a; } a;", "a 2 0, a 0 0, a -1 0")
	slots(t, "let a; { a; let a; { a; } } a;", "a 0 0, a 0 0, a 0 0, a 1 0, a 0 0")
	slots(t, "let a; if (a) { a; } else a; while (a) a;", "a 0 0, a 0 0, a 1 0, a 0 0, a 0 0, a 0 0")
	slots(t, "let a = a; let b = { a: a, [a]: a.a };", "a 0 0, a 0 0, b 0 1, a 0 0, a 0 0, a 0 0")
	slots(t, "let a; a = 1; a += a; typeof a; f(a)[a];", "a 0 0, a 0 0, a 0 0, a 0 0, a 0 0, f -1 0, a 0 0, a 0 0")
}

func TestSlotsOfFunctions(t *testing.T) {
	slots(t, "let x; function f(a, b) { let c; a; b; c; f; x; }", "x 0 0, f 0 1, a 0 0, b 0 1, c 0 2, a 0 0, b 0 1, c 0 2, f 1 1, x 1 0")
	slots(t, "(function f(a) { let b; f; a; b; });", "a 0 1, b 0 2, f 0 0, a 0 1, b 0 2")
	slots(t, "(function (a) { let b; f; a; b; });", "a 0 0, b 0 1, f -1 0, a 0 0, b 0 1")
	slots(t, "(function f(a, f) { f; a; });", "a 0 0, f 0 1, f 0 1, a 0 0")
	slots(t, "(function f(a) { let b; const f = a; f; });", "a 0 0, b 0 1, f 0 2, a 0 0, f 0 2")
	slots(t, "(function f(a) { function f() { f; } });", "a 0 0, f 0 1, f 1 1")
	slots(t, "(function f(a) { { let f; f; } f; });", "a 0 1, f 0 0, f 0 0, f 0 0")
	slots(t, "let f; (function f() { f; }); f;", "f 0 0, f 0 0, f 0 0")
	slots(t, "(function f() { return function g() { f; g; }; });", "f 1 0, g 0 0")
	slots(t, "function f(f) { f; }", "f 0 0, f 0 0, f 0 0")
	slots(t, "function f() { { function f() { f; } f; } f; }", "f 0 0, f 0 0, f 1 0, f 0 0, f 1 0")
	slots(t, "({ get a() { a; let b; b; }, set a(c) { c; let b; b; }, b: c });", "a -1 0, b 0 0, b 0 0, c 0 0, c 0 0, b 0 1, b 0 1, c -1 1")
	slots(t, "new f(function (a) { a; b; }, a);", "f -1 2, a 0 0, a 0 0, b -1 1, a -1 0")
}

func TestSlotsOfLoops(t *testing.T) {
	slots(t, "for (let a of a) a;", "a 0 0, a -1 0, a 0 0")
	slots(t, "let a; for (const a in a) a;", "a 0 0, a 0 0, a 0 0, a 0 0")
	slots(t, "let x; let b; for (let a of b) { a; b; let c; a; c; }", "x 0 0, b 0 1, a 0 0, b 0 1, a 1 0, b 2 1, c 0 0, a 1 0, c 0 0")
	slots(t, "let b; for (let a of (function () { a; b; })) b;", "b 0 0, a 0 0, a -1 0, b 1 0, b 1 0")
	slots(t, "for (let a of b) for (let b of a) for (let a of a) b;", "a 0 0, b -1 0, b 0 0, a 0 0, a 0 0, a 1 0, b 1 0")
	slots(t, "for (let a of b) ; a;", "a 0 0, b -1 1, a -1 0")
}

func TestSlotsOfTries(t *testing.T) {
	slots(t, "let a; try { a; e; } catch (e) { a; e; let b; b; } finally { e; a; }", "a 0 0, a 1 0, e -1 0, a 1 0, e 0 0, b 0 1, b 0 1, e -1 0, a 1 0")
	slots(t, "try {} catch (e) { function f() { e; f; } { e; } }", "f 0 1, e 1 0, f 1 1, e 1 0")
	slots(t, "try {} catch (a) { try {} catch (b) { a; b; } finally { a; b; } }", "a 1 0, b 0 0, a 1 0, b -1 0")
}

func TestSlotsOfAllNodes(t *testing.T) {
	tree := parsed(t, "for (let a in this) { const b = a; (function f(c) { return [f.a, c, d]; }); }")
	l, e := scope.Slots(tree)
	no := api.Slot{Hops: -2}
	want := []api.Slot{
		no, no, {Hops: 0, Index: 0}, no, // script, forin, a, this
		no, {Hops: 0, Index: 0}, {Hops: 1, Index: 0}, // block, b, a
		no, no, {Hops: 0, Index: 1}, no, no, no, // expr, func, c, block, return, array
		no, {Hops: 0, Index: 0}, {Hops: 0, Index: 1}, {Hops: -1, Index: 0}, // member, f, c, d
	}
	if e != api.OK || !slices.Equal(l, want) {
		t.Error(int(e), l)
	}
	if !slices.Equal(must(scope.Slots(api.Tree{Nodes: []api.Node{{Kind: api.NScript}}})), []api.Slot{no}) {
		t.Error("a script of nothing")
	}
}

func must[T any](x T, e api.Errno) T {
	if e != api.OK {
		panic(e)
	}
	return x
}

// P5.3

func TestFrees(t *testing.T) {
	frees(t, "", "")
	frees(t, "let a; a; ({ b: 1 }).c;", "")
	frees(t, "b; a; c; a;", "a b c")
	frees(t, "ab; a; b; B; _; $; a1; a0; aB; A;", "$ A B _ a a0 a1 aB ab b")
	frees(t, "typeof x; f(y.z, [w]); new g();", "f g w x y")
	frees(t, "function f(a) { a; b; } f; (function g(c) { g; }); g; c;", "b c g")
	frees(t, "{ let a; a; } a; { b; let b; }", "a")
	frees(t, "for (let a of a) a; for (let b of c) ; b;", "a b c")
	frees(t, "try { e; } catch (e) { e; }", "e")
	frees(t, "print(undefined); NaN;", "NaN print undefined")
}

func TestScopes(t *testing.T) {
	scopes(t, "", "script 0 0")
	scopes(t, "a; b; let c; const d = 1; function e(f, g) { let h; }", "script 0 3, function 8 3")
	scopes(t, "{} { let a; {} }", "script 0 0, block 1 0, block 2 1, block 4 0")
	scopes(t, "if (a) {} else {} while (b) {}", "script 0 0, block 3 0, block 4 0, block 7 0")
	scopes(t, "try {} catch (e) {} finally {}", "script 0 0, block 2 0, catch 3 1, block 6 0")
	scopes(t, "try { let a; } catch (e) { let a; let b; {} } finally { let a; }", "script 0 0, block 2 1, catch 4 3, block 8 0, block 10 1")
	scopes(t, "for (let a of b) ; for (const a in b) { let a; let b; }", "script 0 0, forof 1 1, forin 5 1, block 8 2")
	scopes(t, "for (let a of function () {}) ;", "script 0 0, forof 1 1, func 3 0")
	scopes(t, "(function () {}); (function f() {}); (function f(f) {}); (function f() { let f; });", "script 0 0, func 2 0, func 5 1, func 8 1, func 12 1")
	scopes(t, "(function f(a, b) { let c; const d = 1; function e() {} });", "script 0 0, func 2 6, function 9 0")
	scopes(t, "function f() {}", "script 0 1, function 1 0")
	scopes(t, "({ get a() { let b; }, set a(c) {} });", "script 0 0, func 5 1, func 10 1")
}

// Limits

func TestMany(t *testing.T) {
	// As many names as a text may declare: each three tokens, a node.
	var b strings.Builder
	n := (api.MaxTokens - 1) / 3
	for i := range n {
		b.WriteString("let a" + strconv.Itoa(i) + ";")
	}
	tree := parsed(t, b.String())
	l := must(scope.Slots(tree))
	if len(l) != n+1 || l[n] != (api.Slot{Index: n - 1}) {
		t.Error(len(l), l[n])
	}
	b.Reset()
	for i := range (api.MaxTokens - 1) / 2 {
		b.WriteString("a" + strconv.Itoa(i) + ";")
	}
	tree = parsed(t, b.String())
	if l := must(scope.Frees(tree)); len(l) != 8191 || !slices.IsSorted(l) || l[0] != "a0" || l[8190] != "a999" {
		t.Error(len(l))
	}
	if l := must(scope.Slots(tree)); l[2] != (api.Slot{Hops: -1}) || l[2000] != (api.Slot{Hops: -1, Index: 8190}) {
		t.Error(l[2], l[2000])
	}
	// As long a chain as there may be, from the left.
	tree = parsed(t, "let a; a"+times(".a", 8000)+";")
	if l := must(scope.Slots(tree)); l[len(l)-1] != (api.Slot{}) || l[len(l)-2].Hops != -2 {
		t.Error(l[len(l)-1])
	}
}

func TestDeep(t *testing.T) {
	n := api.MaxNest - 2 // the name's statement and its value are levels, too
	open, shut := times("{", n), times("}", n)
	tree := parsed(t, "let a; "+open+"a;"+shut)
	if l := must(scope.Slots(tree)); l[len(l)-1] != (api.Slot{Hops: n}) {
		t.Error(l[len(l)-1])
	}
	tree = parsed(t, times("{let a;", n)+"a;"+shut+"a;")
	if l := must(scope.Slots(tree)); l[len(l)-3] != (api.Slot{}) || l[len(l)-1] != (api.Slot{Hops: -1}) {
		t.Error(l[len(l)-3], l[len(l)-1])
	}
	tree = parsed(t, times("function a(b) {", n-1)+"a = b;"+shut[1:])
	if l := must(scope.Slots(tree)); l[len(l)-2] != (api.Slot{Hops: 1, Index: 1}) || l[len(l)-1] != (api.Slot{}) {
		t.Error(l[len(l)-2:])
	}
	early(t, times("{", api.MaxNest-1)+"@break;"+times("}", api.MaxNest-1))
	well(t, "while (a)"+times("{", api.MaxNest-2)+"break;"+times("}", api.MaxNest-2))
	params := make([]string, api.MaxArgs)
	for i := range params {
		params[i] = "a" + strconv.Itoa(i)
	}
	scopes(t, "(function f("+strings.Join(params, ", ")+") { let b; });", "script 0 0, func 2 66")
	params[api.MaxArgs-1] = "@a0"
	early(t, "(function f("+strings.Join(params, ", ")+") { let b; });")
}

// P5.4

// roomy is a tree whose lists have spare room, in which its own numbers stand.
func roomy(t api.Tree) api.Tree {
	c := api.Tree{Nodes: make([]api.Node, len(t.Nodes), len(t.Nodes)+3)}
	for n, x := range t.Nodes {
		kids := slices.Grow(slices.Clone(x.Kids), 8)
		for i := range kids[:cap(kids)][len(x.Kids):] {
			kids[:cap(kids)][len(x.Kids)+i] = -9
		}
		x.Kids = kids
		c.Nodes[n] = x
	}
	return c
}

func TestOnlyRead(t *testing.T) {
	for _, s := range []string{
		"b; let a; function f(c, d) { let e; x; } (function g(h) { const i = 1; }); for (let j of k) {} try {} catch (l) { let m; } ({ set n(o) { let p; } });",
		"let a; let a; function f(b, b) { let b; c = 1; }",
	} {
		tree := parsed(t, s)
		room := roomy(tree)
		scope.Check(room)
		scope.Slots(room)
		scope.Frees(room)
		scope.Scopes(room)
		for n, x := range room.Nodes {
			y := tree.Nodes[n]
			if x.Kind != y.Kind || x.At != y.At || x.Text != y.Text || x.Num != y.Num || !slices.Equal(x.Kids, y.Kids) {
				t.Error(s, n, x, y)
			}
			for _, k := range x.Kids[:cap(x.Kids)][len(x.Kids):] {
				if k != -9 {
					t.Error(s, n, x.Kids[:cap(x.Kids)])
				}
			}
		}
	}
}

func TestNewMemory(t *testing.T) {
	tree := parsed(t, "b; a; let c; { let d; e; }")
	slots, names := must(scope.Slots(tree)), must(scope.Frees(tree))
	nodes, counts, _ := scope.Scopes(tree)
	wanted := []string{"a", "b", "e"}
	if !slices.Equal(names, wanted) {
		t.Fatal(names)
	}
	for _, name := range names {
		for _, x := range tree.Nodes {
			if x.Text == name && unsafe.StringData(x.Text) == unsafe.StringData(name) {
				t.Error(name, "is the tree's own")
			}
		}
	}
	kept := slices.Clone(slots)
	clear(slots)
	clear(names)
	for i := range nodes {
		nodes[i] = -5
	}
	if !slices.Equal(counts, []int{1, 1}) {
		t.Error(counts)
	}
	if !slices.Equal(must(scope.Slots(tree)), kept) || !slices.Equal(must(scope.Frees(tree)), wanted) {
		t.Error("what was answered is kept")
	}
	if nodes, counts, _ = scope.Scopes(tree); !slices.Equal(nodes, []int{0, 6}) || !slices.Equal(counts, []int{1, 1}) {
		t.Error(nodes, counts)
	}
}
