package parse_test

import (
	"strings"

	"bailiff/api"
	"bailiff/lex"
)

// The grammar's rows once more, a way a line: what is not told here stands for itself, but NAME, WORD, NUMBER, STRING and END; ~x stands where the next token is not x. They are read by sets of ways that are under way (Earley's), which come to no token that may not stand there.
const rows = `
script: END
script: some END
some: statement
some: some statement
block: { }
block: { some }
statement: let NAME ;
statement: let NAME = assign ;
statement: const NAME = assign ;
statement: function NAME tail
statement: free
body: ~let ~const ~function free
free: block
free: ;
free: if ( assign ) body
free: if ( assign ) body else body
free: while ( assign ) body
free: for ( let NAME in assign ) body
free: for ( let NAME of assign ) body
free: for ( const NAME in assign ) body
free: for ( const NAME of assign ) body
free: return ;
free: return assign ;
free: throw assign ;
free: break ;
free: continue ;
free: try block catch ( NAME ) block
free: try block finally block
free: try block catch ( NAME ) block finally block
free: ~{ ~function assign ;
tail: ( ) block
tail: ( params ) block
params: NAME
params: params , NAME
assign: cond
assign: target puts assign
puts: =
puts: +=
puts: -=
puts: *=
puts: /=
puts: %=
target: NAME
target: postfix . word
target: postfix [ assign ]
target: ( target )
cond: or
cond: or ? assign : assign
or: and
or: or || and
and: bits
and: and && bits
bits: xors
bits: bits | xors
xors: both
xors: xors ^ both
both: equal
both: both & equal
equal: less
equal: equal == less
equal: equal != less
equal: equal === less
equal: equal !== less
less: shift
less: less < shift
less: less > shift
less: less <= shift
less: less >= shift
less: less in shift
less: less instanceof shift
shift: sum
shift: shift << sum
shift: shift >> sum
shift: shift >>> sum
sum: product
sum: sum + product
sum: sum - product
product: unary
product: product * unary
product: product / unary
product: product % unary
unary: ! unary
unary: - unary
unary: + unary
unary: ~ unary
unary: typeof unary
unary: void unary
unary: delete unary
unary: postfix
postfix: maker
postfix: primary
postfix: postfix . word
postfix: postfix [ assign ]
postfix: postfix ( )
postfix: postfix ( args )
maker: new callee ( )
maker: new callee ( args )
callee: maker
callee: primary
callee: callee . word
callee: callee [ assign ]
args: assign
args: args , assign
word: NAME
word: WORD
primary: NUMBER
primary: STRING
primary: true
primary: false
primary: null
primary: this
primary: NAME
primary: ( assign )
primary: function tail
primary: function NAME tail
primary: { }
primary: { pairs }
primary: [ ]
primary: [ args ]
pairs: pair
pairs: pairs , pair
pair: key : assign
pair: get key ( ) block
pair: set key ( NAME ) block
key: word
key: STRING
key: NUMBER
key: [ assign ]
`

type symbol struct {
	text   string
	rules  []int // of what has rows
	barred bool  // ~: the next token is not text
}

type rule struct{ right []symbol }

type item struct{ rule, dot, from int }

type grammar struct {
	rules []rule
	left  []string
}

func newGrammar() *grammar {
	g := &grammar{}
	of := map[string][]int{}
	var rights []string
	for i, line := range strings.Split(strings.TrimSpace(rows), "\n") {
		left, right, _ := strings.Cut(line, ": ")
		g.left = append(g.left, left)
		of[left] = append(of[left], i)
		rights = append(rights, right)
	}
	for _, right := range rights {
		var r rule
		for _, s := range strings.Fields(right) {
			if len(s) > 1 && s[0] == '~' {
				r.right = append(r.right, symbol{text: s[1:], barred: true})
			} else {
				r.right = append(r.right, symbol{text: s, rules: of[s]})
			}
		}
		g.rules = append(g.rules, r)
	}
	return g
}

func (x symbol) is(t api.Token) bool {
	switch x.text {
	case "NAME":
		return t.Kind == api.TokName
	case "WORD":
		return t.Kind == api.TokWord
	case "NUMBER":
		return t.Kind == api.TokNumber
	case "STRING":
		return t.Kind == api.TokString
	case "END":
		return t.Kind == api.TokEnd
	}
	return t.Kind != api.TokString && t.Text == x.text
}

// reading is the ways that are under way ahead of each token.
type reading struct {
	*grammar
	sets   [][]item          // with all that they come to, ahead of each token that was taken
	last   []item            // ahead of the next one
	closed map[string][]item // last with all that it comes to, by what ~ asks of the next token
}

func (g *grammar) begin() reading {
	return reading{g, nil, []item{{rule: 0}, {rule: 1}}, map[string][]item{}}
}

// take goes on by a token, and tells whether it may stand there.
func (r reading) take(t api.Token) (reading, bool) {
	set := r.close(t)
	var next []item
	for _, x := range set {
		if right := r.rules[x.rule].right; x.dot < len(right) && len(right[x.dot].rules) == 0 && !right[x.dot].barred && right[x.dot].is(t) {
			next = append(next, item{x.rule, x.dot + 1, x.from})
		}
	}
	here := len(r.sets)
	return reading{r.grammar, append(r.sets[:here:here], set), next, map[string][]item{}}, len(next) > 0
}

// close is the last set with all that it comes to ahead of a token.
func (r reading) close(t api.Token) []item {
	asked := ""
	for _, s := range []string{"{", "function", "let", "const"} {
		if (symbol{text: s}).is(t) {
			asked = s
		}
	}
	if set, had := r.closed[asked]; had {
		return set
	}
	set := append([]item(nil), r.last...)
	had := map[item]bool{}
	add := func(x item) {
		if !had[x] {
			had[x] = true
			set = append(set, x)
		}
	}
	for i := 0; i < len(set); i++ {
		x := set[i]
		right := r.rules[x.rule].right
		if x.dot == len(right) {
			for _, y := range r.sets[x.from] {
				if up := r.rules[y.rule].right; y.dot < len(up) && len(up[y.dot].rules) > 0 && r.left[up[y.dot].rules[0]] == r.left[x.rule] {
					add(item{y.rule, y.dot + 1, y.from})
				}
			}
			continue
		}
		if s := right[x.dot]; s.barred && !s.is(t) {
			add(item{x.rule, x.dot + 1, x.from})
		}
		for _, k := range right[x.dot].rules {
			add(item{k, 0, len(r.sets)})
		}
	}
	r.closed[asked] = set
	return set
}

// refused is the number of the first token that may not stand where it stands; -1: there is none.
func (g *grammar) refused(l []api.Token) int {
	r := g.begin()
	for i, t := range l {
		var may bool
		if r, may = r.take(t); !may {
			return i
		}
	}
	return -1
}

// tokens are those of a text, each with its number as its place.
func tokens(s string) []api.Token {
	l, _, e := lex.Tokens(s)
	if e != api.OK {
		panic(s)
	}
	for i := range l {
		l[i].At = i
	}
	return l
}
