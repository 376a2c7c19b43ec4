package parse_test

import (
	"slices"
	"strconv"
	"strings"
	"testing"
	"unsafe"

	"bailiff/api"
	"bailiff/lex"
	"bailiff/parse"
)

// shape writes a tree with its nodes in ( ), each with its kind, its Text, its Num, its kids.
func shape(t api.Tree) string {
	next := 0
	var walk func(int) string
	walk = func(n int) string {
		if n != next {
			return "misnumbered"
		}
		next++
		x := t.Nodes[n]
		s := "(" + parse.Kind(x.Kind)
		if x.Text != "" {
			s += " " + x.Text
		}
		if x.Kind == api.NNumber || x.Num != 0 {
			s += " " + strconv.FormatFloat(x.Num, 'g', -1, 64)
		}
		for _, k := range x.Kids {
			s += " " + walk(k)
		}
		return s + ")"
	}
	s := walk(0)
	if next != len(t.Nodes) {
		return "nodes left over"
	}
	return s
}

func places(t api.Tree) string {
	var l []string
	for _, x := range t.Nodes {
		l = append(l, strconv.Itoa(x.At))
	}
	return strings.Join(l, " ")
}

// parsed holds what Parse tells of s against a tree's shape and places.
func parsed(t *testing.T, s, want, wantPlaces string) {
	t.Helper()
	tree, at, e := parse.Parse(s)
	if e != api.OK || at != 0 {
		t.Errorf("%.60q: %d %d", s, at, int(e))
		return
	}
	if got := shape(tree); got != "(script "+want+")" && got != "(script"+want+")" {
		t.Errorf("%.60q: %s", s, got)
	}
	if got := places(tree); got != wantPlaces {
		t.Errorf("%.60q: at %s", s, got)
	}
}

// refused holds what Parse tells of s against an error and its place.
func refused(t *testing.T, s string, place int, want api.Errno) {
	t.Helper()
	tree, at, e := parse.Parse(s)
	if len(tree.Nodes) != 0 || at != place || e != want {
		t.Errorf("%.60q: %d nodes, %d %d", s, len(tree.Nodes), at, int(e))
	}
}

// marked is refused where its @ stands.
func marked(t *testing.T, s string, want api.Errno) {
	t.Helper()
	ahead, behind, is := strings.Cut(s, "@")
	if !is {
		t.Fatal(s)
	}
	refused(t, ahead+behind, len(ahead), want)
}

func times(s string, n int) string { return strings.Repeat(s, n) }

// P4.1, P4.2

func TestExamples(t *testing.T) {
	tree, at, e := parse.Parse("a = b + 1;")
	want := api.Tree{Nodes: []api.Node{
		{Kind: api.NScript, Kids: []int{1}},
		{Kind: api.NExpr, Kids: []int{2}},
		{Kind: api.NAssign, Text: "=", Kids: []int{3, 4}},
		{Kind: api.NName, Text: "a"},
		{Kind: api.NBinary, At: 4, Text: "+", Kids: []int{5, 6}},
		{Kind: api.NName, At: 4, Text: "b"},
		{Kind: api.NNumber, At: 8, Num: 1},
	}}
	if !parse.Same(tree, want) || places(tree) != "0 0 0 0 4 4 8" || at != 0 || e != api.OK {
		t.Error(tree, at, int(e))
	}
	parsed(t, "new a.b(1).c;", "(expr (member c (new (member b (name a)) (number 1))))", "0 0 0 0 4 4 8")
	parsed(t, "", "", "0")
	parsed(t, "{}", "(block)", "0 0")
	parsed(t, "({});", "(expr (object))", "0 0 1")
	refused(t, "a", 1, api.ErrSyntax)
	refused(t, "1 = 2;", 2, api.ErrSyntax)
	refused(t, "if (a) let b;", 7, api.ErrSyntax)
	refused(t, "try {}", 6, api.ErrSyntax)
	refused(t, "new a;", 5, api.ErrSyntax)
	refused(t, "f(1,);", 4, api.ErrSyntax)
	refused(t, times("a;", 8192), 0, api.ErrMany)
	refused(t, "f("+times("a,", 64)+"a);", 130, api.ErrSyntax)
	refused(t, times("(", 300), 199, api.ErrDeep)
	refused(t, times("{", 201)+times("}", 201), 200, api.ErrDeep)
}

func TestStatements(t *testing.T) {
	parsed(t, " /**/ ", "", "6")
	parsed(t, "  ;", "(empty)", "2 2")
	parsed(t, "{;{}}", "(block (empty) (block))", "0 0 1 2")
	parsed(t, "let a;", "(let a)", "0 0")
	parsed(t, "let a = 1;", "(let a (number 1))", "0 0 8")
	parsed(t, "const a=b=1;", "(const a (assign = (name b) (number 1)))", "0 0 8 8 10")
	parsed(t, "function f(){}", "(function f (block))", "0 0 12")
	parsed(t, "function f(a, b){ return; }", "(function f (name a) (name b) (block (return)))", "0 0 11 14 16 18")
	parsed(t, "f;", "(expr (name f))", "0 0 0")
	parsed(t, "if (a) b;", "(if (name a) (expr (name b)))", "0 0 4 7 7")
	parsed(t, "if (a) if (b) c; else d;", "(if (name a) (if (name b) (expr (name c)) (expr (name d))))", "0 0 4 7 11 14 14 22 22")
	parsed(t, "if (a) if (b) ; else ; else {}", "(if (name a) (if (name b) (empty) (empty)) (block))", "0 0 4 7 11 14 21 28")
	parsed(t, "if (a) while (b) if (c) ; else ;", "(if (name a) (while (name b) (if (name c) (empty) (empty))))", "0 0 4 7 14 17 21 24 31")
	parsed(t, "while (a) ;", "(while (name a) (empty))", "0 0 7 10")
	parsed(t, "for (let a in b) ;", "(forin (let a) (name b) (empty))", "0 0 5 14 17")
	parsed(t, "for (const a of b in c) ;", "(forof (const a) (binary in (name b) (name c)) (empty))", "0 0 5 16 16 21 24")
	parsed(t, "for (let of of of) of;", "(forof (let of) (name of) (expr (name of)))", "0 0 5 15 19 19")
	parsed(t, "for (const a in b = c) break;", "(forin (const a) (assign = (name b) (name c)) (break))", "0 0 5 16 16 20 23")
	parsed(t, "return;", "(return)", "0 0")
	parsed(t, "return\n1;", "(return (number 1))", "0 0 7")
	parsed(t, "throw a;", "(throw (name a))", "0 0 6")
	parsed(t, "break; continue;", "(break) (continue)", "0 0 7")
	parsed(t, "try {} catch (e) {}", "(try (block) (catch e (block)))", "0 0 4 7 17")
	parsed(t, "try {} finally {}", "(try (block) (finally (block)))", "0 0 4 7 15")
	parsed(t, "try {;} catch (e) {;} finally {;}", "(try (block (empty)) (catch e (block (empty))) (finally (block (empty))))", "0 0 4 5 8 18 19 22 30 31")
	parsed(t, "(function () {});", "(expr (func (block)))", "0 0 1 13")
	parsed(t, "get; set; of; undefined; eval;", "(expr (name get)) (expr (name set)) (expr (name of)) (expr (name undefined)) (expr (name eval))", "0 0 0 5 5 10 10 14 14 25 25")
	parsed(t, `"function"; "{";`, "(expr (string function)) (expr (string {))", "0 0 0 12 12")
}

func TestValues(t *testing.T) {
	parsed(t, "0;'a';true;false;null;this;a;", "(expr (number 0)) (expr (string a)) (expr (true)) (expr (false)) (expr (null)) (expr (this)) (expr (name a))", "0 0 0 2 2 6 6 11 11 17 17 22 22 27 27")
	parsed(t, "'';", "(expr (string))", "0 0 0")
	parsed(t, "((a));", "(expr (name a))", "0 0 2")
	parsed(t, "(a).b;", "(expr (member b (name a)))", "0 0 0 1")
	parsed(t, "(a)[(b)];", "(expr (index (name a) (name b)))", "0 0 0 1 5")
	parsed(t, "((a).b)(c);", "(expr (call (member b (name a)) (name c)))", "0 0 0 1 2 8")
	parsed(t, "(a) + b;", "(expr (binary + (name a) (name b)))", "0 0 0 1 6")
	parsed(t, "(a + b) * c;", "(expr (binary * (binary + (name a) (name b)) (name c)))", "0 0 0 1 1 5 10")
	parsed(t, "(a) ? (b) : (c);", "(expr (cond (name a) (name b) (name c)))", "0 0 0 1 7 13")
	parsed(t, "((a)) = b;", "(expr (assign = (name a) (name b)))", "0 0 0 2 8")
	parsed(t, "(a.b) += (c);", "(expr (assign += (member b (name a)) (name c)))", "0 0 0 1 1 10")
	parsed(t, "a[b] -= c *= d /= e %= f;", "(expr (assign -= (index (name a) (name b)) (assign *= (name c) (assign /= (name d) (assign %= (name e) (name f))))))", "0 0 0 0 0 2 8 8 13 13 18 18 23")
	parsed(t, "a ? b = c : d = e;", "(expr (cond (name a) (assign = (name b) (name c)) (assign = (name d) (name e))))", "0 0 0 0 4 4 8 12 12 16")
	parsed(t, "a ? b : c ? d : e;", "(expr (cond (name a) (name b) (cond (name c) (name d) (name e))))", "0 0 0 0 4 8 8 12 16")
	parsed(t, "a || b && c || d;", "(expr (or (or (name a) (and (name b) (name c))) (name d)))", "0 0 0 0 0 5 5 10 15")
	parsed(t, "-a.b - - +c;", "(expr (binary - (unary - (member b (name a))) (unary - (unary + (name c)))))", "0 0 0 0 1 1 7 9 10")
	parsed(t, "typeof void delete !~a;", "(expr (unary typeof (unary void (unary delete (unary ! (unary ~ (name a)))))))", "0 0 0 7 12 19 20 21")
	parsed(t, "a.if.get[b](c, d)();", "(expr (call (call (index (member get (member if (name a))) (name b)) (name c) (name d))))", "0 0 0 0 0 0 0 0 9 12 15")
	parsed(t, "new new a(b)(c)(d);", "(expr (call (new (new (name a) (name b)) (name c)) (name d)))", "0 0 0 0 4 8 10 13 16")
	parsed(t, "new a[b].c(d)[e];", "(expr (index (new (member c (index (name a) (name b))) (name d)) (name e)))", "0 0 0 0 4 4 4 6 11 14")
	parsed(t, "new (a())(b);", "(expr (new (call (name a)) (name b)))", "0 0 0 5 5 10")
	parsed(t, "new (a)().b;", "(expr (member b (new (name a))))", "0 0 0 0 5")
	parsed(t, "new function(){}();", "(expr (new (func (block))))", "0 0 0 4 14")
	parsed(t, "a = function b(c) {};", "(expr (assign = (name a) (func b (name c) (block))))", "0 0 0 0 4 15 18")
	parsed(t, "[];", "(expr (array))", "0 0 0")
	parsed(t, "[a, [b], c = d];", "(expr (array (name a) (array (name b)) (assign = (name c) (name d))))", "0 0 0 1 4 5 9 9 13")
	parsed(t, "a in b instanceof c;", "(expr (binary instanceof (binary in (name a) (name b)) (name c)))", "0 0 0 0 0 5 18")
}

func TestObjects(t *testing.T) {
	parsed(t, "({a: b});", "(expr (object (pair (string a) (name b))))", "0 0 1 2 2 5")
	parsed(t, "({a: 1, 'b c': 2, 3: 4, if: 5, ['d']: 6});", "(expr (object (pair (string a) (number 1)) (pair (string b c) (number 2)) (pair (number 3) (number 4)) (pair (string if) (number 5)) (pair (computed (string d)) (number 6))))", "0 0 1 2 2 5 8 8 15 18 18 21 24 24 28 31 31 32 38")
	parsed(t, "({get: 1, set: 2});", "(expr (object (pair (string get) (number 1)) (pair (string set) (number 2))))", "0 0 1 2 2 7 10 10 15")
	parsed(t, "({get a() {}, set b(c) {}});", "(expr (object (getter (string a) (func (block))) (setter (string b) (func (name c) (block)))))", "0 0 1 2 6 7 10 14 18 19 20 23")
	parsed(t, "({get get() {}, set set(set) {}});", "(expr (object (getter (string get) (func (block))) (setter (string set) (func (name set) (block)))))", "0 0 1 2 6 9 12 16 20 23 24 29")
	parsed(t, "({get ':'() {}, set 1(a) {}, get [b]() {}, get null() {;}});", "(expr (object (getter (string :) (func (block))) (setter (number 1) (func (name a) (block))) (getter (computed (name b)) (func (block))) (getter (string null) (func (block (empty))))))", "0 0 1 2 6 9 12 16 20 21 22 25 29 33 34 36 39 43 47 51 54 55")
	parsed(t, "({'get': a});", "(expr (object (pair (string get) (name a))))", "0 0 1 2 2 9")
	marked(t, "({'get' @a() {}});", api.ErrSyntax)
	marked(t, "({a@, b: 1});", api.ErrSyntax)
	marked(t, "({a @= 1});", api.ErrSyntax)
	marked(t, "({a@() {}});", api.ErrSyntax)
	marked(t, "({get@});", api.ErrSyntax)
	marked(t, "({get@() {}});", api.ErrSyntax)
	marked(t, "({set@, a: 1});", api.ErrSyntax)
	marked(t, "({get a(@b) {}});", api.ErrSyntax)
	marked(t, "({set a(@) {}});", api.ErrSyntax)
	marked(t, "({set a(b@, c) {}});", api.ErrSyntax)
	marked(t, "({get a@: 1});", api.ErrSyntax)
	marked(t, "({a: 1,@});", api.ErrSyntax)
	marked(t, "({@, a: 1});", api.ErrSyntax)
	marked(t, "({[@]: 1});", api.ErrSyntax)
	marked(t, "({[a@, b]: 1});", api.ErrSyntax)
	marked(t, "({@-1: 1});", api.ErrSyntax)
}

func TestLevels(t *testing.T) {
	levels := strings.Split(sided, ",")
	for i, loose := range levels {
		for j, tight := range levels {
			for _, a := range strings.Fields(loose) {
				for _, b := range strings.Fields(tight) {
					left := "(expr " + two(b, two(a, "(name x)", "(name y)"), "(name z)") + ")"
					right := "(expr " + two(a, "(name x)", two(b, "(name y)", "(name z)")) + ")"
					want := left
					if i < j {
						want = right
					}
					tree, _, e := parse.Parse("x " + a + " y " + b + " z;")
					if got := shape(tree); e != api.OK || got != "(script "+want+")" {
						t.Errorf("%s %s: %s %d", a, b, got, int(e))
					}
				}
			}
		}
	}
}

func two(sign, left, right string) string {
	kind := "binary " + sign
	switch sign {
	case "||":
		kind = "or"
	case "&&":
		kind = "and"
	}
	return "(" + kind + " " + left + " " + right + ")"
}

func TestWhatMayNotStand(t *testing.T) {
	for _, s := range []string{
		"@}", "@)", "a@", "a @b;", "a; @=", "@,", "@:", "@else ;", "@catch", "@in;", "@case", "@class a {}", "@switch", "@var a;", "@import a;", "@do", "@with", "@yield", "@super", "@debugger;", "@enum", "@export", "@default", "@extends", "@instanceof",
		"{@", "{a@}", "{;@)", "let @;", "let @let;", "let a@", "let a @b;", "let a@, b;", "let a = @;", "let a @+= 1;", "let @1;", "let @'a';", "const @;", "const a@;", "const a = @;", "let @[a] = b;", "let @{a} = b;", "let @this;",
		"function @() {}", "function f @{}", "function f(@1) {}", "function f(a @b) {}", "function f(a,@) {}", "function f(@,) {}", "function f(a@", "function f() @;", "function f() {@", "function f(@if) {}", "function @if() {}", "function @'a'() {}",
		"if @a;", "if (@) ;", "if (a @;", "if (a) @", "if (a) @let b;", "if (a) @const b = 1;", "if (a) @function f() {}", "if (a) ; else @let b;", "if (a) ; else @function f() {}", "if (a) ; ; @else ;", "if (a) {} @catch", "while (a) @let b;", "while (a) @", "while (@) ;", "while (a@; b) ;",
		"for (@a in b) ;", "for (let a @= 1 in b) ;", "for (let a@;;) ;", "for (let a@) ;", "for (let @in b) ;", "for (let a in@) ;", "for (let a of b@, c) ;", "for (let a of b) @const c = 1;", "for (let a @'of' b) ;", "for (@;;) ;", "for @let a in b;", "for (let a in b) @function c() {}",
		"return a@", "return @)", "throw @;", "throw a@", "break@", "break @a;", "continue @a;", "try @;", "try {} @;", "try {@", "try {} catch @{}", "try {} catch (@) {}", "try {} catch (@1) {}", "try {} catch (e@, f) {}", "try {} catch (e) @;", "try {} catch (e) {} @catch (f) {}", "try {} finally @;", "try {} finally {} @catch (e) {}", "try {} finally {} @finally {}",
		"1 @= 2;", "a + b @= c;", "-a @= b;", "a() @= b;", "new a() @= b;", "(a + b) @= c;", "(a = b) @= c;", "(a ? b : c) @= d;", "this @+= 1;", "'a' @= 1;", "a ? b : 1 @= c;", "a ? b : c = d @: e;", "[a] @= b;", "({}) @= a;", "typeof a @%= b;", "a = 1 @= b;", "(-a) @= b;", "(a()) @= b;",
		"a ? @;", "a ? b@;", "a ? b : @;", "a || @;", "a && @&& b;", "a @! b;", "a + @* b;", "a ++@;", "a --@;", "- @;", "typeof @;", "delete @;", "a @~ b;", "a =@> b;", "a *@* b;", "a & @& b;",
		"a.@;", "a.@1;", "a.@'b';", "a.@[b];", "a.@(b);", "a[@];", "a[b@;", "a[b@, c];", "a(@;", "a(b @c);", "a(b,@);", "a(@, b);", "new @;", "new a@;", "new a @+ b;", "new a.b@;", "new @-a();", "new new a()@;", "new a.@();", "new @typeof a();", "(@);", "(a@;", "(a@, b);", "(@) = 1;",
		"[@", "[a@;", "[a,@];", "[@, a];", "[@,];", "[a @b];", "({@", "({}@;", "(function () {}@;", "(function (a, @1) {});", "(function @1() {});", "(function f @f() {});", "{} @= a;", "function f() {} @= a;", "function f() {} (@);", "{ a@: 1 }",
	} {
		marked(t, s, api.ErrSyntax)
	}
	refused(t, "a; b = #", 7, api.ErrSyntax)
	refused(t, "a b #", 4, api.ErrSyntax)
	refused(t, times(" ", api.MaxText+1), 0, api.ErrBig)
	refused(t, times("a ", api.MaxTokens+1), 2*api.MaxTokens, api.ErrMany)
}

// Whether a token may stand is held against the model, for each way on from what may stand, as far as goes.
func TestTreeAgainstTheModel(t *testing.T) {
	g := newGrammar()
	for _, c := range []struct {
		deep  int
		begin string
		words string
	}{
		{6, "", "a 1 ( ) = + - ? : ; ,"},
		{6, "", "new a ( ) . [ ] ; 'b' ="},
		{6, "", "new typeof a ( ) . if ;"},
		{8, "( {", "get set a : , 's' ( ) { } 1 [ ] if"},
		{6, "", "if else a ( ) ; { } let = while"},
		{7, "", "if ( a ) { } ; else let function const"},
		{9, "try", "try catch finally ( a ) { } ;"},
		{10, "for", "for let const a in of ( ) ; { } ="},
		{7, "", "function a ( ) , { } return ;"},
		{10, "( function", "function a ( ) , { } ; ="},
		{3, "", "a 1 's' ( ) { } [ ] ; , : ? . = += - ! * && || & | ^ ~ == < << in instanceof typeof new function get of let const if else while for return throw break continue try catch finally true this case class"},
	} {
		var l []api.Token
		r := g.begin()
		for _, x := range tokens(c.begin)[:len(strings.Fields(c.begin))] {
			r, _ = r.take(x)
			l = append(l, x)
		}
		alphabet := tokens(c.words)
		walked(t, r, l, alphabet[:len(alphabet)-1], c.deep-len(l))
	}
}

// walked holds Tree against a reading, of tokens that are all well, and of all that go on from these.
func walked(t *testing.T, r reading, l, alphabet []api.Token, deep int) {
	l = l[:len(l):len(l)]
	here := len(l)
	end := append(l, api.Token{At: here})
	want, wantAt := api.OK, 0
	if _, may := r.take(end[here]); !may {
		want, wantAt = api.ErrSyntax, here
	}
	if tree, at, e := parse.Tree(end); at != wantAt || e != want || e == api.OK && len(tree.Nodes) == 0 {
		t.Fatalf("%v: %d %d, and not %d %d", end, at, int(e), wantAt, int(want))
	}
	if deep == 0 {
		return
	}
	for _, x := range alphabet {
		x.At = here
		on := append(l, x)
		if next, may := r.take(x); may {
			walked(t, next, on, alphabet, deep-1)
		} else if tree, at, e := parse.Tree(append(on, x, api.Token{})); len(tree.Nodes) != 0 || at != here || e != api.ErrSyntax {
			t.Fatalf("%v: %d %d", on, at, int(e))
		}
	}
}

// Texts that are made by the rows are read as what they were made of, at its places.
func TestParseAgainstWhatWasMade(t *testing.T) {
	for seed := range uint64(6000) {
		m := newMade(seed, 1+int(seed%120), seed%3 > 0)
		want := tree(m.script())
		got, at, e := parse.Parse(m.out.String())
		if e != api.OK || at != 0 {
			t.Fatalf("%q: %d %d", m.out.String(), at, int(e))
		}
		if shape(got) != shape(want) || places(got) != places(want) {
			t.Fatalf("%q: %s %s, and not %s %s", m.out.String(), shape(got), places(got), shape(want), places(want))
		}
	}
}

// Texts with a token gone, put in or changed are refused where the model refuses them.
func TestTreeOfTextsThatWereSpoilt(t *testing.T) {
	g := newGrammar()
	others := tokens("a 1 's' ( ) { } [ ] ; , : ? . = += - ! in typeof new function get let if else for try catch case")
	for seed := range uint64(1200) {
		m := newMade(seed, 1+int(seed%40), true)
		m.script()
		l := tokens(m.out.String())
		i := m.IntN(len(l))
		x := others[m.IntN(len(others)-1)]
		switch seed % 3 {
		case 0:
			l = slices.Insert(l, i, x)
		case 1:
			l[min(i, max(len(l)-2, 0))].Kind = x.Kind
			if i < len(l)-1 {
				l[i] = x
			} else {
				l = slices.Insert(l, i, x)
			}
		case 2:
			if i < len(l)-1 {
				l = slices.Delete(l, i, i+1)
			}
		}
		for i := range l {
			l[i].At = i
		}
		if _, e := lex.Text(l); e != api.OK {
			continue
		}
		at, want := g.refused(l), api.ErrSyntax
		if at < 0 {
			at, want = 0, api.OK
		}
		if _, gotAt, e := parse.Tree(l); gotAt != at || e != want {
			t.Fatalf("%v: %d %d, and not %d %d", l, gotAt, int(e), at, int(want))
		}
	}
}

func TestTreeOfTokensThatMayNotBe(t *testing.T) {
	end := api.Token{At: 3}
	name := api.Token{Kind: api.TokName, At: 5, Text: "a"}
	semi := api.Token{Kind: api.TokSign, At: 6, Text: ";"}
	for _, c := range []struct {
		l []api.Token
		e api.Errno
	}{
		{nil, api.ErrSyntax}, {[]api.Token{name}, api.ErrSyntax}, {[]api.Token{end, end}, api.ErrSyntax}, {[]api.Token{end, name}, api.ErrSyntax},
		{[]api.Token{name, semi, {Kind: 9}, end}, api.ErrSyntax},
		{[]api.Token{{Kind: api.TokName, At: 5, Text: "let"}, semi, end}, api.ErrSyntax},
		{[]api.Token{{Kind: api.TokNumber, At: 5, Num: 0.5}, semi, end}, api.ErrSyntax},
		{[]api.Token{semi, semi, {Kind: api.TokSign, At: 5, Text: "=>"}, end}, api.ErrSyntax},
		{append(slices.Repeat([]api.Token{semi}, api.MaxTokens+1), end), api.ErrMany},
		{make([]api.Token, api.MaxTokens+2), api.ErrMany},
	} {
		if tree, at, e := parse.Tree(c.l); len(tree.Nodes) != 0 || at != 0 || e != c.e {
			t.Errorf("%.100v: %d %d", c.l, at, int(e))
		}
	}
	// What may not be comes ahead of what may not stand.
	if _, at, e := parse.Tree([]api.Token{name, name, {Kind: 9}, end}); at != 0 || e != api.ErrSyntax {
		t.Error(at, int(e))
	}
	if _, at, e := parse.Tree([]api.Token{name, name, end}); at != 5 || e != api.ErrSyntax {
		t.Error(at, int(e))
	}
	// Places are the tokens', whatever they are.
	tree, at, e := parse.Tree([]api.Token{{Kind: api.TokName, At: -7, Text: "a"}, {Kind: api.TokSign, At: 1 << 40, Text: ";"}, {At: -1}})
	if places(tree) != "-7 -7 -7" || at != 0 || e != api.OK {
		t.Error(tree, at, int(e))
	}
	tree, at, e = parse.Tree([]api.Token{{At: -1}})
	if places(tree) != "-1" || at != 0 || e != api.OK {
		t.Error(tree, at, int(e))
	}
	if _, at, e = parse.Tree([]api.Token{name, {At: -1}}); at != -1 || e != api.ErrSyntax {
		t.Error(at, int(e))
	}
	// A text that would be too long is read as well.
	l := slices.Repeat([]api.Token{{Kind: api.TokString, Text: times("\xff", api.MaxString)}, semi}, 100)
	if tree, _, e := parse.Tree(append(l, end)); e != api.OK || len(tree.Nodes) != 201 {
		t.Error(len(tree.Nodes), int(e))
	}
}

func TestManyNodes(t *testing.T) {
	for _, c := range []struct {
		s string
		n int
	}{{times("a;", 8191) + ";", 16384}, {times(";", 16383), 16384}, {times("a;", 8191), 16383}, {"a" + times(".b", 8190) + ";", 8193}, {"a" + times("+a", 8191) + ";", 16385}} {
		tree, at, e := parse.Parse(c.s)
		if c.n > api.MaxNodes {
			if len(tree.Nodes) != 0 || at != 0 || e != api.ErrMany {
				t.Errorf("%.20q: %d %d", c.s, at, int(e))
			}
		} else if len(tree.Nodes) != c.n || at != 0 || e != api.OK {
			t.Errorf("%.20q: %d nodes, %d %d", c.s, len(tree.Nodes), at, int(e))
		}
	}
	refused(t, times(";", 16384), 0, api.ErrMany)
	refused(t, "; "+times("a;", 8191)+";", 0, api.ErrMany)
	refused(t, " "+times("a;", 8191)+"a a", 16385, api.ErrSyntax)
	refused(t, times(";", 16383)+")", 16383, api.ErrSyntax)
	refused(t, times(";", 16000)+times("(", 300), 16199, api.ErrDeep)
}

func TestManyArguments(t *testing.T) {
	for _, c := range []string{"f(%);", "new f(%);", "a.b(%);", "new f()(%);", "function f(%) {}", "(function (%) {});"} {
		ahead, behind, _ := strings.Cut(c, "%")
		if _, at, e := parse.Parse(ahead + times("a,", 63) + "a" + behind); e != api.OK || at != 0 {
			t.Error(c, at, int(e))
		}
		refused(t, ahead+times("a,", 64)+"a"+behind, len(ahead)+128, api.ErrSyntax)
		refused(t, ahead+times("a,", 64)+"("+behind, len(ahead)+128, api.ErrSyntax)
		refused(t, ahead+times("a,", 64)+behind, len(ahead)+128, api.ErrSyntax)
		refused(t, ahead+times("a,", 200)+"a"+behind, len(ahead)+128, api.ErrSyntax)
	}
	for _, s := range []string{"[" + times("a,", 5000) + "a];", "({" + times("a:b,", 3000) + "a:b});", times("f(a,a);", 65)} {
		if _, at, e := parse.Parse(s); e != api.OK || at != 0 {
			t.Errorf("%.20q: %d %d", s, at, int(e))
		}
	}
}

// Each way to nest is so deep as it is said to be: it may stand as often as goes, and once more it may not.
func TestNesting(t *testing.T) {
	for _, c := range []struct {
		begin  string // what stands about all of them
		base   int    // how many levels that has
		open   string
		levels int // how many each of them has
		in     string
		inner  int // how many levels more there are within the last one
		at     int // where from the last one's beginning is too deep, if it is one too many
		shut   string
		end    string
	}{
		{"", 0, "{", 1, "", 0, 0, "}", ""},
		{"", 0, "{", 1, ";", 1, 1, "}", ""},
		{"", 0, "{", 1, "a;", 2, 1, "}", ""},
		{"", 0, "{", 1, "{a;}", 3, 2, "}", ""},
		{"", 0, "if(a)", 1, ";", 1, 3, "", ""},
		{"", 0, "if(a);else ", 1, ";", 1, 3, "", ""},
		{"", 0, "if(a)a;else ", 1, "a;", 2, 5, "", ""},
		{"", 0, "while(a)", 1, ";", 1, 6, "", ""},
		{"", 0, "for(let a of b)", 1, ";", 1, 13, "", ""},
		{"", 0, "for(const a in b)", 1, "break;", 1, 15, "", ""},
		{"", 0, "function f(){", 1, "", 0, 0, "}", ""},
		{"", 0, "function f(a){", 1, "return;", 1, 14, "}", ""},
		{"", 0, "try{}catch(e){", 1, "", 0, 0, "}", ""},
		{"", 0, "try{;}catch(e){", 1, ";", 1, 4, "}", ""},
		{"", 0, "try{", 1, "", 0, 0, "}finally{}", ""},
		{"", 0, "try{}finally{", 1, ";", 1, 13, "}", ""},
		{"", 1, "(", 1, "a", 1, 1, ")", ";"},
		{"", 1, "[", 1, "a", 1, 1, "]", ";"},
		{"", 1, "[", 1, "", 0, 0, "]", ";"},
		{"", 1, "a(", 1, "a", 1, 2, ")", ";"},
		{"", 1, "a(", 1, "", 0, 0, ")", ";"},
		{"", 1, "a[", 1, "a", 1, 2, "]", ";"},
		{"", 1, "a=", 1, "a", 1, 2, "", ";"},
		{"", 1, "a?", 1, "a", 1, 2, ":b", ";"},
		{"", 1, "a?b:", 1, "a", 1, 2, "", ";"},
		{"", 2, "-", 1, "a", 0, 0, "", ";"},
		{"", 2, "! ", 1, "a", 0, 0, "", ";"},
		{"", 2, "typeof ", 1, "a", 0, 0, "", ";"},
		{"", 2, "void ", 1, "a.b.c()", 0, 0, "", ";"},
		{"a+", 2, "-", 1, "a", 0, 0, "", "+a;"},
		{"", 2, "new ", 1, "a", 0, 0, "()", ";"},
		{"", 2, "new ", 1, "a.b", 0, 0, "().c", "().d(a);"},
		{"-", 3, "new ", 1, "a", 0, 0, "()", ";"},
		{"", 1, "new a(", 1, "a", 1, 0, ")", ";"},
		{"", 1, "new a()[", 1, "a", 1, 0, "]", ";"},
		{"", 1, "-a+b[", 1, "a", 1, 0, "]", ";"},
		{"", 1, "-(", 2, "a", 1, 0, ")", ";"},
		{"", 1, "-a[", 2, "a", 1, 0, "]", ";"},
		{"", 1, "new a[", 2, "a", 1, 0, "]()", ";"},
		{"- -", 4, "-(", 2, "a", 0, 0, ")", ";"},
		{"", 1, "a||b&&c+", 0, "a", 1, 0, "", ";"},
		{"", 2, "a.b().c+", 0, "-a", 1, 0, "", ";"},
		{"x=", 2, "{a:", 1, "a", 1, 3, "}", ";"},
		{"x=", 2, "{[", 1, "a", 1, 2, "]:b}", ";"},
		{"x=", 2, "{b:c,a:", 1, "a", 1, 3, "}", ";"},
		{"", 0, "a=function(){", 3, "", 0, 2, "};", ""},
		{"", 0, "a=function(){", 3, ";", 1, 13, "};", ""},
		{"", 0, "x={get a(){", 3, "", 0, 2, "}};", ""},
		{"", 0, "x={set a(b){", 3, ";", 1, 12, "}};", ""},
		{"return ", 1, "(", 1, "a", 1, 1, ")", ";"},
		{"throw ", 1, "(", 1, "a", 1, 1, ")", ";"},
		{"let a=", 1, "(", 1, "a", 1, 1, ")", ";"},
		{"const a=", 1, "(", 1, "a", 1, 1, ")", ";"},
		{"if(", 1, "(", 1, "a", 1, 1, ")", ");"},
		{"while(", 1, "(", 1, "a", 1, 1, ")", ");"},
		{"for(let a in ", 1, "(", 1, "a", 1, 1, ")", ");"},
		{"{function f(){", 2, "{", 1, "", 0, 0, "}", "}}"},
	} {
		n := 900
		if c.levels > 0 {
			n = (api.MaxNest - c.base - c.inner) / c.levels
		}
		most := c.begin + times(c.open, n) + c.in + times(c.shut, n) + c.end
		if _, at, e := parse.Parse(most); e != api.OK || at != 0 {
			t.Errorf("%q %q: %d %d", c.open, c.in, at, int(e))
		}
		// Where a level is left over, one more of many levels may still begin.
		if c.levels > 0 && (api.MaxNest-c.base-c.inner)%c.levels == 0 {
			refused(t, c.begin+times(c.open, n+1)+c.in+times(c.shut, n+1)+c.end, len(c.begin)+n*len(c.open)+c.at, api.ErrDeep)
		}
	}
}

func TestTooDeepWhateverStandsThere(t *testing.T) {
	blocks := times("{", 200)
	for _, s := range []string{"@)", "@let", "@", "@=", "@a", "@case", "@'a'", "@1 = 2", "@;"} {
		marked(t, blocks+s, api.ErrDeep)
	}
	if _, _, e := parse.Parse(blocks + times("}", 200)); e != api.OK {
		t.Error(int(e))
	}
	// What begins no other statement would have to begin a value.
	for _, s := range []string{"@)", "@case", "@else", "@"} {
		marked(t, times("{", 199)+s, api.ErrDeep)
		marked(t, times("{", 198)+s, api.ErrSyntax)
	}
	refused(t, times("{", 199)+"a"+times("}", 199), 199, api.ErrDeep)
	values := times("(", 199)
	for _, s := range []string{"@)", "@;", "@", "@let", "@{", "@-a"} {
		marked(t, values+s, api.ErrDeep)
	}
	refused(t, times("(", 198)+"]", 198, api.ErrSyntax)
	refused(t, times("(", 198)+"-a", 198, api.ErrDeep)
	refused(t, times("(", 198)+"new", 198, api.ErrDeep)
	refused(t, times("(", 198)+"[]]", 200, api.ErrSyntax)
	marked(t, times("(", 198)+"[@)", api.ErrDeep)
	marked(t, times("(", 198)+"f(@]", api.ErrDeep)
	marked(t, times("(", 198)+"a = @", api.ErrDeep)
	marked(t, times("(", 198)+"1 @= 2", api.ErrSyntax)
	marked(t, times("(", 198)+"{a:@", api.ErrDeep)
	marked(t, times("(", 198)+"{a:@}", api.ErrDeep)
	marked(t, times("(", 198)+"function () {@let", api.ErrDeep)
	marked(t, times("{", 199)+"if (@", api.ErrDeep)
	marked(t, times("{", 199)+"return @}", api.ErrDeep)
	// What comes first is told.
	refused(t, ") "+times("(", 300), 0, api.ErrSyntax)
	refused(t, times("(", 300)+")", 199, api.ErrDeep)
	refused(t, times("(", 300)+"#", 300, api.ErrSyntax)
	refused(t, times("(", 65535), 16384, api.ErrMany)
}

// P4.5

func TestTreeIsNewMemory(t *testing.T) {
	l := tokens("function f(a, b) { let x = { 'k' : a + b }; return x instanceof f.x; } f(1, [2, 3]);")
	for i := range l {
		l[i].Text = strings.Clone(l[i].Text)
	}
	kept := slices.Clone(l)
	tree, _, e := parse.Tree(l)
	if !slices.Equal(l, kept) || e != api.OK {
		t.Error(l, int(e))
	}
	for _, x := range tree.Nodes {
		for _, y := range l {
			if x.Text != "" && x.Text == y.Text && unsafe.StringData(x.Text) == unsafe.StringData(y.Text) {
				t.Error(x)
			}
		}
	}
	want := shape(tree)
	for i := range l {
		l[i] = api.Token{Kind: 9}
	}
	if shape(tree) != want {
		t.Error("tokens are kept")
	}
	for i := range tree.Nodes {
		k := tree.Nodes[i].Kids
		k = append(k, -1)
		_ = append(k[:cap(k)], -1)
		if shape(tree) != want {
			t.Fatal("shared", i)
		}
	}
	first := slices.Clone(tree.Nodes[0].Kids)
	for _, x := range tree.Nodes[1:] {
		clear(x.Kids[:cap(x.Kids)])
	}
	if !slices.Equal(tree.Nodes[0].Kids, first) {
		t.Error(tree.Nodes[0].Kids)
	}
	clear(tree.Nodes[:cap(tree.Nodes)])
	if again, _, _ := parse.Tree(kept); shape(again) != want {
		t.Error(shape(again))
	}
}

// P4.6

func TestPlacesAndKids(t *testing.T) {
	for seed := range uint64(500) {
		m := newMade(seed, 60, true)
		m.script()
		s := m.out.String()
		tree, _, _ := parse.Parse(s)
		l, _, _ := lex.Tokens(s)
		is := map[int]bool{}
		for _, x := range l {
			is[x.At] = true
		}
		for i, x := range tree.Nodes {
			if !is[x.At] || len(x.Kids) > 0 && slices.Min(x.Kids) <= i {
				t.Fatalf("%q: %d %v", s, i, x)
			}
		}
	}
}
