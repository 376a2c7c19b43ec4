package parse_test

import (
	"math/rand/v2"
	"strconv"
	"strings"

	"bailiff/api"
)

// made makes a text by the grammar's rows and, beside it, the tree that it is to be read as.
type made struct {
	*rand.Rand
	out    strings.Builder
	places []int // of the tokens
	left   int   // how much may still be made, about
	spare  bool  // ( ) stand where they need not, too
}

// node is one with its kids, ahead of being numbered.
type node struct {
	kind uint8
	at   int
	text string
	num  float64
	kids []*node
}

func newMade(seed uint64, size int, spare bool) *made {
	return &made{Rand: rand.New(rand.NewPCG(seed, 4)), left: size, spare: spare}
}

// at is where the next token is put.
func (m *made) at() int {
	m.out.WriteString(m.one(" ", "  ", "\n", " /* ; */", " // }\n", "\t"))
	return m.out.Len()
}

func (m *made) put(l ...string) int {
	first := m.at()
	for i, s := range l {
		at := first
		if i > 0 {
			at = m.at()
		}
		m.places = append(m.places, at)
		m.out.WriteString(s)
	}
	return first
}

func (m *made) one(l ...string) string { return l[m.IntN(len(l))] }

func (m *made) name() string {
	return m.one("a", "b", "$", "_c9", "of", "get", "set", "undefined", "eval")
}

// cut tells whether what is made is to come to its end.
func (m *made) cut() bool {
	m.left--
	return m.left < 0
}

func (m *made) some(most int, each func() *node) []*node {
	var l []*node
	for n := m.IntN(most + 1); n > 0 && !m.cut(); n-- {
		l = append(l, each())
	}
	return l
}

func (m *made) commas(most int, each func() *node) []*node {
	i := 0
	return m.some(most, func() *node {
		if i++; i > 1 {
			m.put(",")
		}
		return each()
	})
}

func (m *made) script() *node {
	x := &node{kind: api.NScript, kids: m.some(6, m.statement)}
	end := m.at()
	m.places = append(m.places, end)
	x.at = m.places[0]
	return x
}

func (m *made) block() *node {
	x := &node{kind: api.NBlock, at: m.put("{")}
	x.kids = m.some(3, m.statement)
	m.put("}")
	return x
}

func (m *made) statement() *node {
	switch m.IntN(5) {
	case 0:
		x := &node{kind: api.NLet}
		x.at, x.text = m.put("let"), m.name()
		m.put(x.text)
		if m.IntN(2) == 0 {
			m.put("=")
			x.kids = []*node{m.value()}
		}
		m.put(";")
		return x
	case 1:
		x := &node{kind: api.NConst}
		x.at, x.text = m.put("const"), m.name()
		m.put(x.text, "=")
		x.kids = []*node{m.value()}
		m.put(";")
		return x
	case 2:
		x := &node{kind: api.NFunction, at: m.put("function"), text: m.name()}
		m.put(x.text)
		x.kids = m.function()
		return x
	}
	return m.body(false)
}

// body is a statement that declares nothing; a short one ends with no if that lacks its else.
func (m *made) body(short bool) *node {
	if m.cut() {
		return &node{kind: api.NEmpty, at: m.put(";")}
	}
	switch kind := uint8(m.IntN(12)); {
	case kind == 0:
		return m.block()
	case kind == 1:
		return m.branch(short)
	case kind == 2:
		x := &node{kind: api.NWhile, at: m.put("while")}
		x.kids = []*node{m.inside(), m.body(short)}
		return x
	case kind == 3:
		return m.loop(short)
	case kind == 4:
		x := &node{kind: api.NReturn, at: m.put("return")}
		if m.IntN(2) == 0 {
			x.kids = []*node{m.value()}
		}
		m.put(";")
		return x
	case kind == 5:
		x := &node{kind: api.NThrow, at: m.put("throw")}
		x.kids = []*node{m.value()}
		m.put(";")
		return x
	case kind == 6:
		return &node{kind: api.NBreak, at: m.put("break", ";")}
	case kind == 7:
		return &node{kind: api.NContinue, at: m.put("continue", ";")}
	case kind == 8:
		return m.guarded()
	}
	return m.expression()
}

func (m *made) branch(short bool) *node {
	x := &node{kind: api.NIf, at: m.put("if")}
	test := m.inside()
	if !short && m.IntN(2) == 0 {
		x.kids = []*node{test, m.body(false)}
		return x
	}
	then := m.body(true)
	m.put("else")
	x.kids = []*node{test, then, m.body(short)}
	return x
}

func (m *made) loop(short bool) *node {
	x := &node{kind: api.NForIn, at: m.put("for")}
	m.put("(")
	head := &node{kind: api.NLet, text: m.name()}
	if m.IntN(2) == 0 {
		head.kind, head.at = api.NConst, m.put("const")
	} else {
		head.at = m.put("let")
	}
	m.put(head.text)
	if m.IntN(2) == 0 {
		m.put("in")
	} else {
		m.put("of")
		x.kind = api.NForOf
	}
	value := m.value()
	m.put(")")
	x.kids = []*node{head, value, m.body(short)}
	return x
}

func (m *made) guarded() *node {
	x := &node{kind: api.NTry, at: m.put("try")}
	x.kids = []*node{m.block()}
	n := m.IntN(3)
	if n < 2 {
		c := &node{kind: api.NCatch, at: m.put("catch"), text: m.name()}
		m.put("(", c.text, ")")
		c.kids = []*node{m.block()}
		x.kids = append(x.kids, c)
	}
	if n > 0 {
		f := &node{kind: api.NFinally, at: m.put("finally")}
		f.kids = []*node{m.block()}
		x.kids = append(x.kids, f)
	}
	return x
}

// expression is a statement of a value, made once more if it begins as it may not.
func (m *made) expression() *node {
	for {
		kept, places, left := m.out.String(), len(m.places), m.left
		x := &node{kind: api.NExpr, kids: []*node{m.value()}}
		x.at = m.places[places]
		if began := m.out.String()[x.at:]; began[0] != '{' && !strings.HasPrefix(began, "function") {
			m.put(";")
			return x
		}
		m.out.Reset()
		m.out.WriteString(kept)
		m.places, m.left = m.places[:places], left
	}
}

func (m *made) function() []*node {
	m.put("(")
	l := m.commas(3, m.param)
	m.put(")")
	return append(l, m.block())
}

func (m *made) param() *node {
	x := &node{kind: api.NName, text: m.name()}
	x.at = m.put(x.text)
	return x
}

func (m *made) inside() *node {
	m.put("(")
	x := m.value()
	m.put(")")
	return x
}

func (m *made) value() *node { return m.held(0) }

// The signs of two sides by their levels, the loosest first.
const sided = "||,&&,|,^,&,== != === !==,< > <= >= in instanceof,<< >> >>>,+ -,* / %"

// held makes a value of a level or a tighter one: 0 assigns and conds, 1 to 10 two sides, 11 unary, 12 postfix, 13 a new's callee.
func (m *made) held(least int) *node {
	if m.spare && m.IntN(6) == 0 && !m.cut() {
		return m.inside()
	}
	if m.cut() {
		return m.single()
	}
	level := least + m.IntN(16-least)
	places := len(m.places)
	var x *node
	switch {
	case level == 0:
		x = m.loose()
	case level <= 10:
		x = m.sides(level)
	case level == 11:
		sign := m.one("!", "-", "+", "~", "typeof", "void", "delete")
		m.put(sign)
		x = &node{kind: api.NUnary, text: sign, kids: []*node{m.held(11)}}
	case level <= 13:
		x = m.chain(max(least, 12))
	case level == 14:
		m.put("new")
		x = &node{kind: api.NNew, kids: append([]*node{m.held(13)}, m.args()...)}
	default:
		return m.single()
	}
	x.at = m.places[places]
	return x
}

func (m *made) loose() *node {
	if m.IntN(2) == 0 {
		left := m.target()
		sign := m.one("=", "+=", "-=", "*=", "/=", "%=")
		m.put(sign)
		return &node{kind: api.NAssign, text: sign, kids: []*node{left, m.value()}}
	}
	test := m.held(1)
	m.put("?")
	yes := m.value()
	m.put(":")
	return &node{kind: api.NCond, kids: []*node{test, yes, m.value()}}
}

func (m *made) target() *node {
	if m.spare && m.IntN(3) == 0 {
		m.put("(")
		x := m.target()
		m.put(")")
		return x
	}
	if m.cut() {
		return m.param()
	}
	places := len(m.places)
	x := m.asked(m.held(12), m.IntN(2))
	x.at = m.places[places]
	return x
}

func (m *made) sides(level int) *node {
	sign := m.one(strings.Fields(strings.Split(sided, ",")[level-1])...)
	left := m.held(level)
	m.put(sign)
	x := &node{kind: api.NBinary, text: sign, kids: []*node{left, m.held(level + 1)}}
	switch sign {
	case "||":
		x.kind, x.text = api.NOr, ""
	case "&&":
		x.kind, x.text = api.NAnd, ""
	}
	return x
}

func (m *made) chain(least int) *node {
	x := m.held(least)
	return m.asked(x, m.IntN(15-least))
}

// asked goes on from a value: by a member, a key or a call.
func (m *made) asked(x *node, how int) *node {
	switch how {
	case 0:
		m.put(".")
		word := m.one("a", "get", "let", "instanceof", "true")
		m.put(word)
		return &node{kind: api.NMember, text: word, kids: []*node{x}}
	case 1:
		m.put("[")
		key := m.value()
		m.put("]")
		return &node{kind: api.NIndex, kids: []*node{x, key}}
	}
	return &node{kind: api.NCall, kids: append([]*node{x}, m.args()...)}
}

func (m *made) args() []*node {
	m.put("(")
	l := m.commas(3, m.value)
	m.put(")")
	return l
}

func (m *made) single() *node {
	switch m.IntN(12) {
	case 0:
		return m.number()
	case 1:
		s := m.one("", "a", "+", "(", "\x00\xff", "'\"", "get")
		return &node{kind: api.NString, text: s, at: m.put(strconv.Quote(s))}
	case 2:
		return &node{kind: api.NTrue, at: m.put("true")}
	case 3:
		return &node{kind: api.NFalse, at: m.put("false")}
	case 4:
		return &node{kind: api.NNull, at: m.put("null")}
	case 5:
		return &node{kind: api.NThis, at: m.put("this")}
	case 6:
		x := &node{kind: api.NFunc, at: m.put("function")}
		if m.IntN(2) == 0 {
			x.text = m.name()
			m.put(x.text)
		}
		x.kids = m.function()
		return x
	case 7, 8:
		x := &node{kind: api.NObject, at: m.put("{")}
		x.kids = m.commas(3, m.pair)
		m.put("}")
		return x
	case 9:
		x := &node{kind: api.NArray, at: m.put("[")}
		x.kids = m.commas(3, m.value)
		m.put("]")
		return x
	}
	return m.param()
}

func (m *made) number() *node {
	n := m.IntN(100)
	return &node{kind: api.NNumber, num: float64(n), at: m.put(strconv.Itoa(n))}
}

func (m *made) pair() *node {
	places := len(m.places)
	x := &node{kind: api.NPair}
	switch m.IntN(3) {
	case 0:
		m.put("get")
		x.kind = api.NGetter
		key := m.key()
		f := &node{kind: api.NFunc, at: m.put("(", ")")}
		f.kids = []*node{m.block()}
		x.kids = []*node{key, f}
	case 1:
		m.put("set")
		x.kind = api.NSetter
		key := m.key()
		f := &node{kind: api.NFunc, at: m.put("(")}
		name := m.param()
		m.put(")")
		f.kids = []*node{name, m.block()}
		x.kids = []*node{key, f}
	default:
		key := m.key()
		m.put(":")
		x.kids = []*node{key, m.value()}
	}
	x.at = m.places[places]
	return x
}

func (m *made) key() *node {
	switch m.IntN(4) {
	case 0:
		return m.number()
	case 1:
		x := &node{kind: api.NComputed, at: m.put("[")}
		x.kids = []*node{m.value()}
		m.put("]")
		return x
	case 2:
		s := m.one("a", ":", "get", "")
		return &node{kind: api.NString, text: s, at: m.put(strconv.Quote(s))}
	}
	s := m.one("a", "get", "set", "of", "if", "null")
	return &node{kind: api.NString, text: s, at: m.put(s)}
}

// tree numbers nodes: each ahead of its kids.
func tree(whole *node) api.Tree {
	var t api.Tree
	var walk func(*node) int
	walk = func(x *node) int {
		n := len(t.Nodes)
		t.Nodes = append(t.Nodes, api.Node{Kind: x.kind, At: x.at, Text: x.text, Num: x.num})
		kids := []int{}
		for _, k := range x.kids {
			kids = append(kids, walk(k))
		}
		t.Nodes[n].Kids = kids
		return n
	}
	walk(whole)
	return t
}
