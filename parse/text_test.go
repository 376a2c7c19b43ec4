package parse_test

import (
	"math"
	"slices"
	"strings"
	"testing"

	"bailiff/api"
	"bailiff/lex"
	"bailiff/parse"
)

// read is the tree of a text that is well.
func read(t *testing.T, s string) api.Tree {
	t.Helper()
	tree, at, e := parse.Parse(s)
	if e != api.OK {
		t.Fatalf("%.60q: %d %d", s, at, int(e))
	}
	return tree
}

// checked holds Check and Text of a tree against an error.
func checked(t *testing.T, tree api.Tree, want api.Errno) {
	t.Helper()
	if e := parse.Check(tree); e != want {
		t.Errorf("%.200v: %d", tree, int(e))
	}
	if s, e := parse.Text(tree); e != want || s != "" && want != api.OK {
		t.Errorf("%.200v: %.60q %d", tree, s, int(e))
	}
}

// of makes a node of the tests' own.
func of(kind uint8, text string, kids ...*node) *node {
	return &node{kind: kind, text: text, kids: kids}
}

func named(s string) *node { return of(api.NName, s) }

func block(l ...*node) *node { return of(api.NBlock, "", l...) }

func empty() *node { return of(api.NEmpty, "") }

func expr(x *node) *node { return of(api.NExpr, "", x) }

func script(l ...*node) api.Tree { return tree(of(api.NScript, "", l...)) }

func many(n int, x *node) []*node { return slices.Repeat([]*node{x}, n) }

// within puts a node in so many others.
func within(n int, x *node, about func(*node) *node) *node {
	for range n {
		x = about(x)
	}
	return x
}

func blocked(x *node) *node { return block(x) }

func minus(x *node) *node { return of(api.NUnary, "-", x) }

// P4.3

func TestText(t *testing.T) {
	for _, c := range []struct{ s, want string }{
		{"(a + b) * c;", "( a + b ) * c ;"},
		{"a + (b * c);", "a + b * c ;"},
		{"", ""}, {" // a", ""}, {"  ;", ";"}, {"{}", "{ }"}, {"{{};a;}", "{ { } ; a ; }"},
		{"let a;let a=(1);const b='x\\n';", "let a ; let a = 1 ; const b = \"x\\n\" ;"},
		{"function f(a,b){return;return(a);}", "function f ( a , b ) { return ; return a ; }"},
		{"if(a){}else if((b));else throw(c);", "if ( a ) { } else if ( b ) ; else throw c ;"},
		{"if(a)if(b);else;", "if ( a ) if ( b ) ; else ;"},
		{"if(a){if(b);}else;", "if ( a ) { if ( b ) ; } else ;"},
		{"while(a){break;continue;}", "while ( a ) { break ; continue ; }"},
		{"for(let of of(of))for(const a in b=c);", "for ( let of of of ) for ( const a in b = c ) ;"},
		{"try{}catch(e){}try{}finally{}try{;}catch(e){;}finally{;}", "try { } catch ( e ) { } try { } finally { } try { ; } catch ( e ) { ; } finally { ; }"},
		{"0;\"'\";true;false;null;this;", "0 ; \"'\" ; true ; false ; null ; this ;"},
		{"a.b.get.if[c](d,e)();", "a . b . get . if [ c ] ( d , e ) ( ) ;"},
		{"a=function b(c,d){};", "a = function b ( c , d ) { } ;"},
		{"typeof void delete!~+-a;", "typeof void delete ! ~ + - a ;"},
		{"1 .a;", "1 . a ;"},
	} {
		first := read(t, c.s)
		if s, e := parse.Text(first); s != c.want || e != api.OK {
			t.Errorf("%q: %q %d", c.s, s, int(e))
		}
		checked(t, first, api.OK)
	}
}

func TestTextOfKeys(t *testing.T) {
	for _, c := range []struct{ s, want string }{
		{"a: 1", `"a" : 1`}, {"'b': 1", `"b" : 1`}, {"3: 1", "3 : 1"}, {"'3': 1", `"3" : 1`}, {"[c]: 1", "[ c ] : 1"}, {"['c']: 1", `[ "c" ] : 1`}, {"get: 1", `"get" : 1`}, {"set: 1", `"set" : 1`}, {"if: 1", `"if" : 1`}, {"'': 1", `"" : 1`},
		{"get a(){}", `get "a" ( ) { }`}, {"get get(){}", `get "get" ( ) { }`}, {"set 'a'(b){}", `set "a" ( b ) { }`}, {"get 8(){}", "get 8 ( ) { }"}, {"set[a](b){}", "set [ a ] ( b ) { }"}, {"a: 1, b: (c = d)", `"a" : 1 , "b" : c = d`},
	} {
		if s, e := parse.Text(read(t, "({"+c.s+"});")); s != "( { "+c.want+" } ) ;" || e != api.OK {
			t.Errorf("%q: %q %d", c.s, s, int(e))
		}
	}
}

func TestTextOfWhatBeginsAStatement(t *testing.T) {
	for _, c := range []struct{ s, want string }{
		{"({});", "( { } ) ;"}, {"(function(){});", "( function ( ) { } ) ;"}, {"(function f(){}());", "( function f ( ) { } ) ( ) ;"}, {"({}.a);", "( { } ) . a ;"}, {"({}+a);", "( { } ) + a ;"}, {"({}?a:b);", "( { } ) ? a : b ;"}, {"({}.a=b);", "( { } ) . a = b ;"}, {"({}.a()||b&&c);", "( { } ) . a ( ) || b && c ;"}, {"({}[a]instanceof b);", "( { } ) [ a ] instanceof b ;"},
		{"(({}+a).b);", "( { } + a ) . b ;"}, {"({}=={});", "( { } ) == { } ;"}, {"-{};", "- { } ;"}, {"a={};", "a = { } ;"}, {"[{}];", "[ { } ] ;"}, {"f({},function(){});", "f ( { } , function ( ) { } ) ;"}, {"return {};", "return { } ;"}, {"return function(){};", "return function ( ) { } ;"}, {"throw {}.a;", "throw { } . a ;"}, {"let a={};", "let a = { } ;"}, {"const a=function(){};", "const a = function ( ) { } ;"}, {"new {}();", "new { } ( ) ;"}, {"new function(){}();", "new function ( ) { } ( ) ;"},
		{"if({});else ({});", "if ( { } ) ; else ( { } ) ;"}, {"while(function(){});", "while ( function ( ) { } ) ;"}, {"for(let a of {});", "for ( let a of { } ) ;"}, {"a;({});", "a ; ( { } ) ;"}, {"({get a(){({});}});", "( { get \"a\" ( ) { ( { } ) ; } } ) ;"}, {"(function(){(function(){});});", "( function ( ) { ( function ( ) { } ) ; } ) ;"},
	} {
		if s, e := parse.Text(read(t, c.s)); s != c.want || e != api.OK {
			t.Errorf("%q: %q %d", c.s, s, int(e))
		}
	}
}

func TestTextOfCallees(t *testing.T) {
	for _, c := range []struct{ s, want string }{
		{"new a();", "new a ( ) ;"}, {"new (a.b)(c);", "new a . b ( c ) ;"}, {"new (a[b()])(c());", "new a [ b ( ) ] ( c ( ) ) ;"}, {"new (a())();", "new ( a ( ) ) ( ) ;"}, {"(new a())();", "new a ( ) ( ) ;"}, {"(new a()).b;", "new a ( ) . b ;"}, {"new (new a())();", "new new a ( ) ( ) ;"}, {"new (new a().b)();", "new new a ( ) . b ( ) ;"}, {"new (new (a())())();", "new new ( a ( ) ) ( ) ( ) ;"},
		{"new (a().b)(c);", "new ( a ( ) ) . b ( c ) ;"}, {"new (a()[b].c())();", "new ( a ( ) [ b ] . c ( ) ) ( ) ;"}, {"new (a()[b()])();", "new ( a ( ) ) [ b ( ) ] ( ) ;"}, {"new ((a()).b().c)();", "new ( a ( ) . b ( ) ) . c ( ) ;"}, {"new (new a()().b)();", "new ( new a ( ) ( ) ) . b ( ) ;"},
		{"new (-a)();", "new ( - a ) ( ) ;"}, {"new ((-a).b)();", "new ( - a ) . b ( ) ;"}, {"new (a = b)((c = d));", "new ( a = b ) ( c = d ) ;"}, {"new (a ? b : c)();", "new ( a ? b : c ) ( ) ;"}, {"new (a + b)();", "new ( a + b ) ( ) ;"}, {"new (a)();", "new a ( ) ;"}, {"new ([a])();", "new [ a ] ( ) ;"}, {"new ('a')();", "new \"a\" ( ) ;"}, {"new (this.a)();", "new this . a ( ) ;"},
	} {
		if s, e := parse.Text(read(t, c.s)); s != c.want || e != api.OK {
			t.Errorf("%q: %q %d", c.s, s, int(e))
		}
	}
}

func TestTextOfLevels(t *testing.T) {
	for _, c := range []struct{ s, want string }{
		{"((a))=(b=(c));", "a = b = c ;"}, {"(a.b)+=(c);", "a . b += c ;"}, {"(a=b)?(c=d):(e=f);", "( a = b ) ? c = d : e = f ;"}, {"(a?b:c)?(d?e:f):(g?h:i);", "( a ? b : c ) ? d ? e : f : g ? h : i ;"}, {"(a||b)||c;", "a || b || c ;"}, {"a||(b||c);", "a || ( b || c ) ;"}, {"(a||b)&&c;", "( a || b ) && c ;"}, {"a||(b&&c);", "a || b && c ;"}, {"a&&(b&&c);", "a && ( b && c ) ;"}, {"a&&(b|c);", "a && b | c ;"}, {"(a&&b)|c;", "( a && b ) | c ;"}, {"(a||b)?c:d;", "a || b ? c : d ;"},
		{"a-(b-c);", "a - ( b - c ) ;"}, {"(a-b)-c;", "a - b - c ;"}, {"a*(b/c)%d;", "a * ( b / c ) % d ;"}, {"(a in b)<c;", "a in b < c ;"}, {"a in(b<c);", "a in ( b < c ) ;"}, {"a==(b in c);", "a == b in c ;"}, {"(a&b)^(c|d);", "a & b ^ ( c | d ) ;"}, {"a<<(b>>c);", "a << ( b >> c ) ;"}, {"(a^b)&c;", "( a ^ b ) & c ;"},
		{"-(-a);", "- - a ;"}, {"-(a+b);", "- ( a + b ) ;"}, {"(-a)+b;", "- a + b ;"}, {"a*(-b);", "a * - b ;"}, {"-(a.b());", "- a . b ( ) ;"}, {"(-a).b;", "( - a ) . b ;"}, {"(typeof a)[b];", "( typeof a ) [ b ] ;"}, {"(a+b)();", "( a + b ) ( ) ;"}, {"((a.b)[c])(d);", "a . b [ c ] ( d ) ;"}, {"(a=b).c;", "( a = b ) . c ;"}, {"(a?b:c).d;", "( a ? b : c ) . d ;"}, {"delete (a.if);", "delete a . if ;"}, {"a+(b=c);", "a + ( b = c ) ;"}, {"-(b=c);", "- ( b = c ) ;"}, {"[(a=b),(c?d:e)];", "[ a = b , c ? d : e ] ;"}, {"a[(b=c)];", "a [ b = c ] ;"}, {"a((b=c));", "a ( b = c ) ;"},
	} {
		if s, e := parse.Text(read(t, c.s)); s != c.want || e != api.OK {
			t.Errorf("%q: %q %d", c.s, s, int(e))
		}
	}
}

// No ( ) of what Text tells may be left out: what is read then is another tree, or none.
func TestTextHasNoSpareParentheses(t *testing.T) {
	for seed := range uint64(1500) {
		m := newMade(seed, 1+int(seed%60), true)
		m.script()
		first := read(t, m.out.String())
		s, e := parse.Text(first)
		if e != api.OK || !parse.Same(read(t, s), first) {
			t.Fatalf("%q: %q %d", m.out.String(), s, int(e))
		}
		l := tokens(s)
		for i := range l {
			if shut := pair(l, i); shut > 0 {
				less := slices.Delete(slices.Clone(l), shut, shut+1)
				if other, _, e := parse.Tree(slices.Delete(less, i, i+1)); e == api.OK && parse.Same(other, first) {
					t.Fatalf("%q has ( ) to spare", s)
				}
			}
		}
	}
}

// pair is where the ( ) that is open at i is shut; 0: none is.
func pair(l []api.Token, i int) int {
	deep := 0
	for j := i; l[i].Kind == api.TokSign && l[i].Text == "("; j++ {
		switch {
		case l[j].Kind == api.TokSign && l[j].Text == "(":
			deep++
		case l[j].Kind == api.TokSign && l[j].Text == ")":
			deep--
		}
		if deep == 0 {
			return j
		}
	}
	return 0
}

// plainly writes nodes with ( ) about each value, whatever stands where: a tree that may be is read from that.
func plainly(x *node) string {
	last := len(x.kids) - 1
	kid := func(i int) string { return plainly(x.kids[i]) }
	switch x.kind {
	case api.NScript:
		return each(x.kids, " ")
	case api.NBlock:
		return "{" + each(x.kids, " ") + "}"
	case api.NLet, api.NConst:
		if len(x.kids) == 0 {
			return parse.Kind(x.kind) + " " + x.text + ";"
		}
		return parse.Kind(x.kind) + " " + x.text + "=" + values(x.kids) + ";"
	case api.NFunction, api.NFunc:
		return "function " + x.text + "(" + each(x.kids[:last], ",") + ")" + kid(last)
	case api.NExpr:
		return values(x.kids) + ";"
	case api.NIf:
		s := "if(" + kid(0) + ")" + kid(1)
		if last == 2 {
			s += " else " + kid(2)
		}
		return s
	case api.NWhile:
		return "while(" + kid(0) + ")" + kid(1)
	case api.NForIn, api.NForOf:
		return "for(" + strings.TrimSuffix(kid(0), ";") + map[uint8]string{api.NForIn: " in ", api.NForOf: " of "}[x.kind] + kid(1) + ")" + kid(2)
	case api.NReturn, api.NThrow:
		return parse.Kind(x.kind) + values(x.kids) + ";"
	case api.NBreak, api.NContinue:
		return parse.Kind(x.kind) + ";"
	case api.NEmpty:
		return ";"
	case api.NTry:
		return "try" + each(x.kids, " ")
	case api.NCatch:
		return "catch(" + x.text + ")" + kid(0)
	case api.NFinally:
		return "finally" + kid(0)
	}
	return plainValue(x)
}

func each(l []*node, between string) string {
	var out []string
	for _, k := range l {
		out = append(out, plainly(k))
	}
	return strings.Join(out, between)
}

func values(l []*node) string {
	var out []string
	for _, k := range l {
		out = append(out, "("+plainly(k)+")")
	}
	return strings.Join(out, ",")
}

func plainValue(x *node) string {
	switch x.kind {
	case api.NNumber:
		s, _ := lex.Text([]api.Token{{Kind: api.TokNumber, Num: x.num}, {}})
		return s
	case api.NString:
		s, _ := lex.Text([]api.Token{{Kind: api.TokString, Text: x.text}, {}})
		return s
	case api.NTrue, api.NFalse, api.NNull, api.NThis:
		return parse.Kind(x.kind)
	case api.NName:
		return x.text
	case api.NObject:
		return "{" + each(x.kids, ",") + "}"
	case api.NPair:
		return plainly(x.kids[0]) + ":" + values(x.kids[1:])
	case api.NGetter:
		return "get " + plainly(x.kids[0]) + strings.TrimPrefix(plainly(x.kids[1]), "function ")
	case api.NSetter:
		return "set " + plainly(x.kids[0]) + strings.TrimPrefix(plainly(x.kids[1]), "function ")
	case api.NComputed, api.NArray:
		return "[" + values(x.kids) + "]"
	case api.NMember:
		return values(x.kids) + "." + x.text
	case api.NIndex:
		return values(x.kids[:1]) + "[" + values(x.kids[1:]) + "]"
	case api.NCall:
		return values(x.kids[:1]) + "(" + values(x.kids[1:]) + ")"
	case api.NNew:
		return "new " + values(x.kids[:1]) + "(" + values(x.kids[1:]) + ")"
	case api.NUnary:
		return x.text + values(x.kids)
	case api.NCond:
		return values(x.kids[:1]) + "?" + values(x.kids[1:2]) + ":" + values(x.kids[2:])
	case api.NAnd:
		return values(x.kids[:1]) + "&&" + values(x.kids[1:])
	case api.NOr:
		return values(x.kids[:1]) + "||" + values(x.kids[1:])
	}
	return values(x.kids[:1]) + x.text + values(x.kids[1:])
}

// all are a node and what is below it.
func all(x *node) []*node {
	l := []*node{x}
	for _, k := range x.kids {
		l = append(l, all(k)...)
	}
	return l
}

// Trees that are made by the rows may be; those in which a node was changed, or put in another's place, just if they are read from some text.
func TestCheckAgainstWhatIsRead(t *testing.T) {
	may, others := 0, 0
	for seed := range uint64(30000) {
		m := newMade(seed, 1+int(seed%25), false)
		whole := m.script()
		checked(t, tree(whole), api.OK)
		l := all(whole)
		x, y := l[m.IntN(len(l))], l[m.IntN(len(l))]
		switch seed % 5 {
		case 0:
			x.kind = uint8(m.IntN(44))
		case 1:
			x.text = m.one("", "a", "b", "let", "+", "=", "&&", "in", "typeof", "1", "get", "==", "!", "a b", "*=")
		case 2:
			x.num = float64(m.IntN(4)) - 1.5
		case 3:
			*x = *[]*node{empty(), named("a")}[m.IntN(2)]
		default:
			if slices.Contains(all(y), x) {
				continue
			}
			*x = *y
		}
		if slices.Contains(all(whole)[1:], whole) {
			continue
		}
		changed := tree(whole)
		least := true
		for _, n := range changed.Nodes {
			least = least && rowed(n)
		}
		want := api.ErrSyntax
		if least {
			if again, _, e := parse.Parse(plainly(whole)); e == api.OK && parse.Same(again, changed) {
				want = api.OK
				may++
			} else {
				others++
			}
		}
		if e := parse.Check(changed); e != want {
			t.Fatalf("%s: %d, and not %d", shape(changed), int(e), int(want))
		}
	}
	if may < 1000 || others < 1000 {
		t.Error(may, others)
	}
}

// rowed tells whether a node has kids enough to be written plainly.
func rowed(x api.Node) bool {
	n := len(x.Kids)
	switch x.Kind {
	case api.NScript, api.NBlock, api.NObject, api.NArray:
		return x.Text == ""
	case api.NString:
		return n == 0
	case api.NLet, api.NConst:
		return n <= 1 && x.Text != ""
	case api.NFunction:
		return n >= 1 && x.Text != ""
	case api.NFunc:
		return n >= 1
	case api.NCall, api.NNew:
		return n >= 1 && x.Text == ""
	case api.NIf, api.NTry:
		return (n == 2 || n == 3) && x.Text == ""
	case api.NReturn:
		return n <= 1 && x.Text == ""
	case api.NName:
		return n == 0 && x.Text != ""
	case api.NCatch, api.NMember, api.NUnary:
		return n == 1 && x.Text != ""
	case api.NBinary, api.NAssign:
		return n == 2 && x.Text != ""
	case api.NExpr, api.NThrow, api.NFinally, api.NComputed:
		return n == 1 && x.Text == ""
	case api.NWhile, api.NPair, api.NGetter, api.NSetter, api.NIndex, api.NAnd, api.NOr:
		return n == 2 && x.Text == ""
	case api.NForIn, api.NForOf, api.NCond:
		return n == 3 && x.Text == ""
	}
	return n == 0 && x.Text == "" && parse.Kind(x.Kind) != ""
}

func TestCheckOfTreesThatAreNotBuilt(t *testing.T) {
	checked(t, api.Tree{}, api.ErrSyntax)
	checked(t, api.Tree{Nodes: []api.Node{}}, api.ErrSyntax)
	checked(t, api.Tree{Nodes: []api.Node{{}}}, api.ErrSyntax)
	checked(t, api.Tree{Nodes: []api.Node{{Kind: api.NScript}}}, api.OK)
	checked(t, api.Tree{Nodes: []api.Node{{Kind: api.NBlock}}}, api.ErrSyntax)
	checked(t, api.Tree{Nodes: []api.Node{{Kind: api.NScript, Text: "a"}}}, api.ErrSyntax)
	checked(t, api.Tree{Nodes: []api.Node{{Kind: api.NScript, Num: 1}}}, api.ErrSyntax)
	checked(t, api.Tree{Nodes: []api.Node{{Kind: api.NScript, Num: math.NaN()}}}, api.ErrSyntax)
	checked(t, api.Tree{Nodes: []api.Node{{Kind: api.NScript}, {Kind: api.NEmpty}}}, api.ErrSyntax)
	checked(t, api.Tree{Nodes: make([]api.Node, api.MaxNodes)}, api.ErrSyntax)
	for _, kids := range [][]int{{0}, {-1}, {2}, {math.MaxInt}, {math.MinInt}, {1, 1}, {1, 2}, {1, 0}, {2, 1}} {
		checked(t, api.Tree{Nodes: []api.Node{{Kind: api.NScript, Kids: kids}, {Kind: api.NEmpty}}}, api.ErrSyntax)
	}
	checked(t, api.Tree{Nodes: []api.Node{{Kind: api.NScript, Kids: []int{1, 3}}, {Kind: api.NBlock, Kids: []int{2}}, {Kind: api.NEmpty}, {Kind: api.NEmpty}}}, api.OK)
	checked(t, api.Tree{Nodes: []api.Node{{Kind: api.NScript, Kids: []int{1, 2}}, {Kind: api.NBlock, Kids: []int{3}}, {Kind: api.NEmpty}, {Kind: api.NEmpty}}}, api.ErrSyntax)
	checked(t, api.Tree{Nodes: []api.Node{{Kind: api.NScript, Kids: []int{1, 2}}, {Kind: api.NBlock, Kids: []int{2}}, {Kind: api.NEmpty}}}, api.ErrSyntax)
	checked(t, api.Tree{Nodes: []api.Node{{Kind: api.NScript, Kids: []int{1}}, {Kind: api.NBlock, Kids: []int{1}}}}, api.ErrSyntax)
	checked(t, api.Tree{Nodes: []api.Node{{Kind: api.NScript, Kids: []int{1}}, {Kind: api.NBlock, Kids: []int{0}}}}, api.ErrSyntax)
	checked(t, script(of(api.NScript, "")), api.ErrSyntax)
	long := slices.Repeat([]int{1}, 1<<20)
	checked(t, api.Tree{Nodes: []api.Node{{Kind: api.NScript, Kids: long}, {Kind: api.NEmpty}}}, api.ErrSyntax)
	// Places are not looked at.
	odd := read(t, "let a = { get b() { return 1; } };")
	for i := range odd.Nodes {
		odd.Nodes[i].At = -i << 40
	}
	checked(t, odd, api.OK)
	// Nothing but the numbers told may be the kids'.
	for i, x := range odd.Nodes {
		for j := range x.Kids {
			for _, by := range []int{-1, 1, 1000, math.MinInt} {
				x.Kids[j] += by
				checked(t, odd, api.ErrSyntax)
				x.Kids[j] -= by
			}
		}
		odd.Nodes[i].Kids = append(x.Kids, len(odd.Nodes))
		checked(t, odd, api.ErrSyntax)
		odd.Nodes[i].Kids = x.Kids
	}
	checked(t, odd, api.OK)
}

func TestCheckOfRows(t *testing.T) {
	a, e := named("a"), empty()
	body := block()
	for _, x := range []*node{
		block(e), of(api.NLet, "a"), of(api.NLet, "a", a), of(api.NConst, "a", a), of(api.NFunction, "f", body), of(api.NFunction, "f", a, a, body), expr(a), of(api.NIf, "", a, e), of(api.NIf, "", a, e, e), of(api.NWhile, "", a, e), of(api.NForIn, "", of(api.NLet, "a"), a, e), of(api.NForOf, "", of(api.NConst, "a"), a, e), of(api.NReturn, ""), of(api.NReturn, "", a), of(api.NThrow, "", a), of(api.NBreak, ""), of(api.NContinue, ""), e,
		of(api.NTry, "", body, of(api.NCatch, "e", body)), of(api.NTry, "", body, of(api.NFinally, "", body)), of(api.NTry, "", body, of(api.NCatch, "e", body), of(api.NFinally, "", body)),
		expr(of(api.NFunc, "", body)), expr(of(api.NFunc, "f", a, body)), expr(of(api.NString, "")), expr(of(api.NObject, "", of(api.NPair, "", of(api.NString, "let"), a), of(api.NGetter, "", of(api.NNumber, ""), of(api.NFunc, "", body)), of(api.NSetter, "", of(api.NComputed, "", a), of(api.NFunc, "", a, body)))), expr(of(api.NMember, "let", a)), expr(of(api.NCall, "", append(many(1, a), many(api.MaxArgs, a)...)...)), expr(of(api.NNew, "", append(many(1, a), many(api.MaxArgs, a)...)...)), of(api.NFunction, "f", append(many(api.MaxArgs, a), body)...), expr(of(api.NArray, "", many(1000, a)...)),
	} {
		checked(t, script(x), api.OK)
		checked(t, script(e, x, e), api.OK)
	}
}

// TestCheckOfWhatHasNoRow is of nodes that have too few kids or too many, or a Text or none as their rows have not. They come ahead of all else.
func TestCheckOfWhatHasNoRow(t *testing.T) {
	a, e, body := named("a"), empty(), block()
	for _, x := range []*node{
		of(0, ""), of(19, ""), of(44, ""), of(255, ""), expr(of(0, "")), expr(of(200, "a", a)),
		of(api.NBlock, "a"), of(api.NLet, ""), of(api.NLet, "a", a, a), of(api.NConst, "", a), of(api.NConst, "a", a, a), of(api.NFunction, "f"), of(api.NFunction, "", body), of(api.NExpr, ""), of(api.NExpr, "", a, a), of(api.NExpr, "a", a),
		of(api.NIf, "", a), of(api.NIf, "", a, e, e, e), of(api.NIf, "a", a, e), of(api.NWhile, "", a), of(api.NWhile, "", a, e, e), of(api.NForIn, "", of(api.NLet, "a"), a), of(api.NForOf, "a", of(api.NLet, "a"), a, e), of(api.NForOf, "", of(api.NLet, "a"), a, e, e),
		of(api.NReturn, "", a, a), of(api.NReturn, "a"), of(api.NThrow, ""), of(api.NThrow, "", a, a), of(api.NBreak, "", a), of(api.NBreak, "a"), of(api.NContinue, "", e), of(api.NEmpty, "", e), of(api.NEmpty, ";"),
		of(api.NTry, "", body), of(api.NTry, ""), of(api.NTry, "", body, of(api.NCatch, "", body)), of(api.NTry, "", body, of(api.NCatch, "e")), of(api.NTry, "", body, of(api.NFinally, "f", body)), of(api.NTry, "", body, of(api.NFinally, "")), of(api.NTry, "", body, of(api.NCatch, "e", body), of(api.NFinally, "", body), of(api.NFinally, "", body)),
		expr(of(api.NNumber, "1")), expr(of(api.NNumber, "", a)), expr(of(api.NString, "a", a)), expr(of(api.NThis, "this")), expr(of(api.NTrue, "", a)), expr(of(api.NFalse, "a")), expr(of(api.NNull, "a")), expr(named("")), expr(of(api.NName, "a", a)), expr(of(api.NFunc, "")), expr(of(api.NObject, "a")), expr(of(api.NObject, "", of(api.NPair, "", of(api.NString, "a")))), expr(of(api.NObject, "", of(api.NPair, "a", of(api.NString, "a"), a))), expr(of(api.NObject, "", of(api.NGetter, "", of(api.NString, "a")))), expr(of(api.NObject, "", of(api.NSetter, "a", of(api.NString, "a"), of(api.NFunc, "", a, body)))), expr(of(api.NObject, "", of(api.NPair, "", of(api.NComputed, ""), a))), expr(of(api.NArray, "a")),
		expr(of(api.NMember, "", a)), expr(of(api.NMember, "a")), expr(of(api.NMember, "a", a, a)), expr(of(api.NIndex, "", a)), expr(of(api.NIndex, "a", a, a)), expr(of(api.NCall, "")), expr(of(api.NCall, "f", a)), expr(of(api.NNew, "")), expr(of(api.NNew, "a", a)), expr(of(api.NUnary, "", a)), expr(of(api.NUnary, "-")), expr(of(api.NUnary, "-", a, a)), expr(of(api.NBinary, "", a, a)), expr(of(api.NBinary, "+", a)), expr(of(api.NBinary, "+", a, a, a)), expr(of(api.NAnd, "&&", a, a)), expr(of(api.NAnd, "", a)), expr(of(api.NOr, "||", a, a)), expr(of(api.NOr, "", a, a, a)), expr(of(api.NCond, "", a, a)), expr(of(api.NCond, "?", a, a, a)), expr(of(api.NAssign, "", a, a)), expr(of(api.NAssign, "=", a)), expr(of(api.NAssign, "=", a, a, a)),
	} {
		checked(t, script(x), api.ErrSyntax)
		checked(t, script(e, x, e), api.ErrSyntax)
		checked(t, ahead(x), api.ErrSyntax)
		checked(t, behind(x), api.ErrSyntax)
		checked(t, script(within(200, body, blocked), x), api.ErrSyntax)
	}
	// So does how they are numbered.
	lost := behind(e)
	lost.Nodes = append(lost.Nodes, api.Node{Kind: api.NEmpty})
	checked(t, lost, api.ErrSyntax)
	twice := behind(e)
	twice.Nodes[0].Kids[1] = 1
	checked(t, twice, api.ErrSyntax)
	other := behind(e)
	other.Nodes[0].Kind = api.NBlock
	checked(t, other, api.ErrSyntax)
}

// ahead is a script of more tokens than may be, behind a statement; behind is one with that behind them.
func ahead(x *node) api.Tree {
	return script(append([]*node{x}, many(api.MaxTokens/3+1, of(api.NLet, "a"))...)...)
}

func behind(x *node) api.Tree {
	return script(append(many(api.MaxTokens/3+1, of(api.NLet, "a")), x)...)
}

// TestCheckOfPlaces is of nodes that may not stand where they stand: that, or a token too many, whichever comes first, comes ahead of what is too deep.
func TestCheckOfPlaces(t *testing.T) {
	a, e, body, let := named("a"), empty(), block(), of(api.NLet, "a")
	for _, x := range []*node{
		a, of(api.NString, "a"), of(api.NCatch, "e", body), of(api.NFinally, "", body), of(api.NPair, "", of(api.NString, "a"), a), of(api.NGetter, "", of(api.NString, "a"), of(api.NFunc, "", body)), of(api.NScript, ""), of(api.NComputed, "", a), of(api.NFunc, "f", body), block(a), block(body, of(api.NScript, "")),
		of(api.NLet, "a", e), of(api.NConst, "a"), of(api.NConst, "a", of(api.NLet, "b")), of(api.NFunction, "f", a), of(api.NFunction, "f", e), of(api.NFunction, "f", body, body), of(api.NFunction, "f", of(api.NThis, ""), body), of(api.NFunction, "f", append(many(api.MaxArgs+1, a), body)...),
		expr(e), expr(body), expr(let), expr(of(api.NCatch, "e", body)), expr(of(api.NComputed, "", a)), expr(of(api.NPair, "", of(api.NString, "a"), a)), expr(of(api.NScript, "")),
		of(api.NIf, "", a, a), of(api.NIf, "", e, e), of(api.NIf, "", a, let), of(api.NIf, "", a, of(api.NConst, "a", a)), of(api.NIf, "", a, e, of(api.NFunction, "f", body)), of(api.NWhile, "", e, e), of(api.NWhile, "", a, of(api.NConst, "a", a)), of(api.NWhile, "", a, of(api.NFunction, "f", body)),
		of(api.NForIn, "", of(api.NLet, "a", a), a, e), of(api.NForIn, "", of(api.NConst, "a", a), a, e), of(api.NForOf, "", a, a, e), of(api.NForOf, "", e, a, e), of(api.NForOf, "", let, e, e), of(api.NForOf, "", let, a, let), of(api.NForOf, "", let, a, a), of(api.NReturn, "", e), of(api.NThrow, "", e),
		of(api.NTry, "", body, body), of(api.NTry, "", body, a), of(api.NTry, "", e, of(api.NFinally, "", body)), of(api.NTry, "", body, of(api.NFinally, "", body), of(api.NCatch, "e", body)), of(api.NTry, "", body, of(api.NCatch, "e", body), of(api.NCatch, "e", body)), of(api.NTry, "", body, of(api.NFinally, "", body), of(api.NFinally, "", body)), of(api.NTry, "", body, of(api.NCatch, "e", e)), of(api.NTry, "", body, of(api.NFinally, "", e)), of(api.NTry, "", body, of(api.NCatch, "e", a)),
		expr(of(api.NFunc, "", body, a)), expr(of(api.NFunc, "", e)), expr(of(api.NFunc, "", append(many(api.MaxArgs+1, a), body)...)), expr(of(api.NObject, "", a)), expr(of(api.NObject, "", body)), expr(of(api.NObject, "", of(api.NComputed, "", a))), expr(of(api.NObject, "", of(api.NPair, "", a, a))), expr(of(api.NObject, "", of(api.NPair, "", of(api.NString, "a"), e))), expr(of(api.NObject, "", of(api.NPair, "", of(api.NComputed, "", e), a))), expr(of(api.NObject, "", of(api.NPair, "", of(api.NThis, ""), a))),
		expr(of(api.NObject, "", of(api.NGetter, "", of(api.NString, "a"), a))), expr(of(api.NObject, "", of(api.NGetter, "", of(api.NString, "a"), of(api.NFunc, "f", body)))), expr(of(api.NObject, "", of(api.NGetter, "", of(api.NString, "a"), of(api.NFunc, "", a, body)))), expr(of(api.NObject, "", of(api.NGetter, "", a, of(api.NFunc, "", body)))),
		expr(of(api.NObject, "", of(api.NSetter, "", of(api.NString, "a"), of(api.NFunc, "", body)))), expr(of(api.NObject, "", of(api.NSetter, "", of(api.NString, "a"), of(api.NFunc, "", a, a, body)))), expr(of(api.NObject, "", of(api.NSetter, "", of(api.NString, "a"), of(api.NFunc, "f", a, body)))), expr(of(api.NObject, "", of(api.NSetter, "", of(api.NString, "a"), a))),
		expr(of(api.NArray, "", e)), expr(of(api.NMember, "a", e)), expr(of(api.NIndex, "", a, e)), expr(of(api.NIndex, "", e, a)), expr(of(api.NCall, "", a, e)), expr(of(api.NCall, "", e)), expr(of(api.NCall, "", many(api.MaxArgs+2, a)...)), expr(of(api.NNew, "", e)), expr(of(api.NNew, "", a, e)), expr(of(api.NNew, "", many(api.MaxArgs+2, a)...)),
		expr(of(api.NUnary, "*", a)), expr(of(api.NUnary, "new", a)), expr(of(api.NUnary, "a", a)), expr(of(api.NUnary, "-", e)), expr(of(api.NBinary, "&&", a, a)), expr(of(api.NBinary, "||", a, a)), expr(of(api.NBinary, "=", a, a)), expr(of(api.NBinary, "of", a, a)), expr(of(api.NBinary, ".", a, a)), expr(of(api.NBinary, "!", a, a)), expr(of(api.NBinary, "+", a, e)), expr(of(api.NBinary, "+", e, a)), expr(of(api.NAnd, "", e, a)), expr(of(api.NOr, "", a, e)), expr(of(api.NCond, "", a, a, e)), expr(of(api.NCond, "", e, a, a)),
		expr(of(api.NAssign, "==", a, a)), expr(of(api.NAssign, "&=", a, a)), expr(of(api.NAssign, "+", a, a)), expr(of(api.NAssign, "=", of(api.NThis, ""), a)), expr(of(api.NAssign, "=", of(api.NCall, "", a), a)), expr(of(api.NAssign, "=", of(api.NAssign, "=", a, a), a)), expr(of(api.NAssign, "=", a, e)), expr(of(api.NAssign, "=", e, a)),
	} {
		checked(t, script(x), api.ErrSyntax)
		checked(t, script(e, x, e), api.ErrSyntax)
		checked(t, ahead(x), api.ErrSyntax)
		checked(t, behind(x), api.ErrMany)
		checked(t, script(within(200, body, blocked), x), api.ErrSyntax)
	}
}

// TestCheckOfWhatIsReadOtherwise is of nodes that are well in their places, and not what is read there.
func TestCheckOfWhatIsReadOtherwise(t *testing.T) {
	a, e, body := named("a"), empty(), block()
	for _, x := range []*node{
		of(api.NLet, "let"), of(api.NLet, "1"), of(api.NLet, ";"), of(api.NConst, "a b", a), of(api.NFunction, "if", body), of(api.NFunction, "f", named("if"), body), of(api.NTry, "", body, of(api.NCatch, "if", body)), of(api.NForOf, "", of(api.NLet, "of "), a, e), expr(of(api.NFunc, "if", body)),
		expr(&node{kind: api.NNumber, num: -1}), expr(&node{kind: api.NNumber, num: 0.5}), expr(&node{kind: api.NNumber, num: math.NaN()}), expr(&node{kind: api.NNumber, num: math.Inf(1)}), expr(&node{kind: api.NNumber, num: math.Copysign(0, -1)}), expr(&node{kind: api.NNumber, num: api.MaxSafe + 1}), expr(of(api.NString, strings.Repeat("a", api.MaxString+1))), expr(named(strings.Repeat("a", api.MaxString+1))), expr(named("this")), expr(named("a;")), expr(of(api.NMember, "1", a)), expr(of(api.NMember, ";", a)), expr(of(api.NMember, "a.b", a)),
		of(api.NIf, "", a, of(api.NIf, "", a, e), e), of(api.NIf, "", a, of(api.NWhile, "", a, of(api.NIf, "", a, e)), e), of(api.NIf, "", a, of(api.NForOf, "", of(api.NLet, "a"), a, of(api.NIf, "", a, e)), of(api.NIf, "", a, e)), of(api.NIf, "", a, of(api.NIf, "", a, e, of(api.NIf, "", a, e)), e),
		expr(&node{kind: api.NName, text: "a", num: 1}), expr(&node{kind: api.NString, text: "a", num: math.NaN()}), {kind: api.NEmpty, num: 0.5}, {kind: api.NBlock, num: -1},
	} {
		checked(t, script(x), api.ErrSyntax)
		checked(t, script(e, x, e), api.ErrSyntax)
		checked(t, script(block(x)), api.ErrSyntax)
	}
	for _, x := range []*node{of(api.NIf, "", a, block(of(api.NIf, "", a, e)), e), of(api.NIf, "", a, of(api.NIf, "", a, e, e)), of(api.NIf, "", a, of(api.NTry, "", block(of(api.NIf, "", a, e)), of(api.NFinally, "", body)), e), {kind: api.NEmpty, num: math.Copysign(0, -1)}} {
		checked(t, script(x), api.OK)
	}
}

func TestCheckAtTheLimits(t *testing.T) {
	a, let, none := named("a"), of(api.NLet, "a"), of(api.NString, "a")
	checked(t, script(many(api.MaxTokens/2, block())...), api.OK)
	checked(t, script(many(api.MaxNodes-1, empty())...), api.OK)
	checked(t, script(many(api.MaxNodes, empty())...), api.ErrMany)
	checked(t, api.Tree{Nodes: make([]api.Node, api.MaxNodes+1)}, api.ErrMany)
	// 5461 times let a ; have a token less than may be.
	lets := many(api.MaxTokens/3, let)
	checked(t, script(lets...), api.OK)
	checked(t, script(append(lets, empty())...), api.OK)
	checked(t, script(append(lets, empty(), empty())...), api.ErrMany)
	checked(t, script(append(lets, let)...), api.ErrMany)
	checked(t, script(append(lets, of(api.NReturn, ""))...), api.ErrMany)
	// What comes first is told: a token more, or a node that may not stand there.
	checked(t, script(append(append(many(1, none), lets...), let)...), api.ErrSyntax)
	checked(t, script(append(append([]*node(nil), lets...), empty(), none, empty())...), api.ErrSyntax)
	checked(t, script(append(append([]*node(nil), lets...), let, none)...), api.ErrMany)
	checked(t, script(append(append([]*node(nil), lets...), let, of(api.NIf, "", a, let))...), api.ErrMany)
	// How it is built comes ahead of both.
	checked(t, script(append(append([]*node(nil), lets...), let, of(api.NReturn, "a"))...), api.ErrSyntax)
	checked(t, script(append(append([]*node(nil), lets...), let, of(api.NThrow, ""))...), api.ErrSyntax)
	short := script(append(lets, let)...)
	short.Nodes[0].Kids = short.Nodes[0].Kids[1:]
	checked(t, short, api.ErrSyntax)
	// ( ) are tokens, too.
	checked(t, script(many(1500, expr(of(api.NObject, "", of(api.NPair, "", none, a))))...), api.OK)
	checked(t, script(many(2100, expr(of(api.NObject, "", of(api.NPair, "", none, a))))...), api.ErrMany)
}

func TestCheckOfDeepTrees(t *testing.T) {
	a, body := named("a"), block()
	for _, c := range []struct {
		x *node
		e api.Errno
	}{
		{within(199, body, blocked), api.OK}, {within(200, body, blocked), api.ErrDeep}, {within(16000, empty(), blocked), api.ErrMany}, {within(8000, empty(), blocked), api.ErrDeep},
		{expr(within(198, a, minus)), api.OK}, {expr(within(199, a, minus)), api.ErrDeep}, {expr(within(16000, a, minus)), api.ErrDeep},
		{within(100, expr(of(api.NThis, "a")), blocked), api.ErrSyntax}, {within(300, expr(of(api.NThis, "a")), blocked), api.ErrSyntax}, {within(300, expr(body), blocked), api.ErrSyntax}, {within(300, expr(named("if")), blocked), api.ErrSyntax},
		{expr(within(3000, a, func(x *node) *node { return of(api.NBinary, "+", x, a) })), api.OK}, {expr(within(100, a, func(x *node) *node { return of(api.NBinary, "+", a, x) })), api.OK}, {expr(within(199, a, func(x *node) *node { return of(api.NBinary, "+", a, x) })), api.OK}, {expr(within(200, a, func(x *node) *node { return of(api.NBinary, "+", a, x) })), api.ErrDeep},
		{expr(within(5000, a, func(x *node) *node { return of(api.NMember, "a", x) })), api.OK}, {expr(within(198, a, func(x *node) *node { return of(api.NNew, "", x) })), api.OK}, {expr(within(199, a, func(x *node) *node { return of(api.NNew, "", x) })), api.ErrDeep},
	} {
		checked(t, script(c.x), c.e)
	}
	// A node that may not stand where it stands comes ahead of what is too deep, wherever it stands.
	checked(t, script(within(200, body, blocked), of(api.NString, "a")), api.ErrSyntax)
	// What is only read otherwise comes behind it, if it stands behind it.
	lost := of(api.NIf, "", a, of(api.NIf, "", a, empty()), empty())
	checked(t, script(within(200, body, blocked), lost), api.ErrDeep)
	checked(t, script(lost), api.ErrSyntax)
}

func TestTextThatIsTooLong(t *testing.T) {
	long := expr(named(strings.Repeat("a", api.MaxString)))
	fits := many(15, long)
	// Each has its name, a blank, a ; and a blank, but the last one.
	rest := api.MaxText - 15*(api.MaxString+3) - 2
	exact := append(append([]*node(nil), fits...), expr(named(strings.Repeat("a", rest))))
	s, e := parse.Text(script(exact...))
	if len(s) != api.MaxText || e != api.OK {
		t.Error(len(s), int(e))
	}
	over := script(append(append([]*node(nil), fits...), expr(named(strings.Repeat("a", rest+1))))...)
	s, e = parse.Text(over)
	if s != "" || e != api.ErrBig || parse.Check(over) != api.OK {
		t.Error(len(s), int(e))
	}
	far := script(many(3000, long)...)
	s, e = parse.Text(far)
	if s != "" || e != api.ErrBig || parse.Check(far) != api.OK {
		t.Error(len(s), int(e))
	}
	far.Nodes[1].Text = "a"
	checked(t, far, api.ErrSyntax)
}

// P4.4

func TestSame(t *testing.T) {
	nan := math.NaN()
	base := func() api.Tree {
		return api.Tree{Nodes: []api.Node{{Kind: 9, At: 1, Text: "a", Num: 2, Kids: []int{7, -1}}, {}}}
	}
	if !parse.Same(base(), base()) || !parse.Same(api.Tree{}, api.Tree{Nodes: []api.Node{}}) {
		t.Error("not the same")
	}
	for i, change := range []func(*api.Tree){
		func(x *api.Tree) { x.Nodes[0].Kind = 8 }, func(x *api.Tree) { x.Nodes[0].Text = "b" }, func(x *api.Tree) { x.Nodes[0].Num = 3 }, func(x *api.Tree) { x.Nodes[0].Num = nan }, func(x *api.Tree) { x.Nodes[0].Kids = []int{7} }, func(x *api.Tree) { x.Nodes[0].Kids = []int{7, 1} }, func(x *api.Tree) { x.Nodes[0].Kids = []int{-1, 7} }, func(x *api.Tree) { x.Nodes[0].Kids = nil }, func(x *api.Tree) { x.Nodes[1].Kind = 1 }, func(x *api.Tree) { x.Nodes = x.Nodes[:1] }, func(x *api.Tree) { x.Nodes = append(x.Nodes, api.Node{}) }, func(x *api.Tree) { x.Nodes = nil },
	} {
		x := base()
		change(&x)
		if parse.Same(x, base()) || parse.Same(base(), x) || !parse.Same(x, x) {
			t.Error(i)
		}
	}
	for i, change := range []func(*api.Tree){
		func(x *api.Tree) { x.Nodes[0].At = 5 }, func(x *api.Tree) { x.Nodes[1].At = -5 }, func(x *api.Tree) { x.Nodes[1].Kids = []int{} }, func(x *api.Tree) { x.Nodes[1].Num = math.Copysign(0, -1) },
	} {
		x := base()
		change(&x)
		if !parse.Same(x, base()) || !parse.Same(base(), x) {
			t.Error(i)
		}
	}
	if !parse.Same(read(t, "a+(b);"), read(t, " a + b ; ")) || parse.Same(read(t, "a+b;"), read(t, "a-b;")) || parse.Same(read(t, "a;"), read(t, "'a';")) {
		t.Error("read")
	}
}

func TestKind(t *testing.T) {
	names := map[uint8]string{1: "script", 2: "block", 3: "let", 4: "const", 5: "function", 6: "expr", 7: "if", 8: "while", 9: "forin", 10: "forof", 11: "return", 12: "throw", 13: "break", 14: "continue", 15: "empty", 16: "try", 17: "catch", 18: "finally", 20: "number", 21: "string", 22: "true", 23: "false", 24: "null", 25: "this", 26: "name", 27: "func", 28: "object", 29: "pair", 30: "getter", 31: "setter", 32: "computed", 33: "array", 34: "member", 35: "index", 36: "call", 37: "new", 38: "unary", 39: "binary", 40: "and", 41: "or", 42: "cond", 43: "assign"}
	for i := range 256 {
		if s := parse.Kind(uint8(i)); s != names[uint8(i)] {
			t.Error(i, s)
		}
	}
}

// P4.5

func TestTreesAreOnlyRead(t *testing.T) {
	for _, s := range []string{"", "let a = { get b() { return [1, 'c']; } };", "if (a) b; else new c(d).e[f] = g;"} {
		first, again := read(t, s), read(t, s)
		for i := range first.Nodes {
			k := first.Nodes[i].Kids
			first.Nodes[i].Kids = append(make([]int, 0, len(k)+3), k...)
			clear(first.Nodes[i].Kids[len(k):cap(first.Nodes[i].Kids)])
		}
		parse.Check(first)
		if _, e := parse.Text(first); e != api.OK {
			t.Error(int(e))
		}
		parse.Same(first, again)
		if !parse.Same(first, again) || places(first) != places(again) {
			t.Error(first)
		}
		for _, x := range first.Nodes {
			for _, k := range x.Kids[len(x.Kids):cap(x.Kids)] {
				if k != 0 {
					t.Error("spare room", x)
				}
			}
		}
	}
}

// P4.6

func TestParseOfText(t *testing.T) {
	for seed := range uint64(1500) {
		m := newMade(seed, 200, true)
		m.script()
		first := read(t, m.out.String())
		s, e := parse.Text(first)
		if e != api.OK {
			t.Fatalf("%q: %d", m.out.String(), int(e))
		}
		again := read(t, s)
		if twice, e := parse.Text(again); !parse.Same(first, again) || twice != s || e != api.OK {
			t.Fatalf("%q: %q %q %d", m.out.String(), s, twice, int(e))
		}
	}
}
