package parse

import "bailiff/api"

// How tight what is read holds together: 0, where all may stand; then the levels of signs between two sides, as level tells them; then these.
const (
	ors     = 1
	ands    = 2
	unaries = 11
	calls   = 12
	callees = 13
)

// level is how tight a sign or word binds its two sides; 0: it has none.
func level(sign string) int {
	switch sign {
	case "||":
		return ors
	case "&&":
		return ands
	case "|":
		return 3
	case "^":
		return 4
	case "&":
		return 5
	case "==", "!=", "===", "!==":
		return 6
	case "<", ">", "<=", ">=", "in", "instanceof":
		return 7
	case "<<", ">>", ">>>":
		return 8
	case "+", "-":
		return 9
	case "*", "/", "%":
		return 10
	}
	return 0
}

// puts tells whether a sign is an assignment's.
func puts(sign string) bool {
	switch sign {
	case "=", "+=", "-=", "*=", "/=", "%=":
		return true
	}
	return false
}

// leads tells whether a sign or word stands ahead of its one side.
func leads(sign string) bool {
	switch sign {
	case "!", "-", "+", "~", "typeof", "void", "delete":
		return true
	}
	return false
}

// target tells whether a kind may be assigned to.
func target(kind uint8) bool {
	return kind == api.NName || kind == api.NMember || kind == api.NIndex
}

func (p *parser) assign() *part { return p.deeper(p.assigned) }

func (p *parser) assigned() *part {
	at := p.at()
	left := p.cond()
	sign := said(p.token())
	if !puts(sign) {
		return left
	}
	if !target(left.Kind) {
		p.refuse(api.ErrSyntax)
	}
	p.take(sign)
	return p.part(api.NAssign, at, sign, left, p.assign())
}

func (p *parser) cond() *part {
	at := p.at()
	test := p.sides(ors)
	if !p.skip("?") {
		return test
	}
	yes := p.assign()
	p.take(":")
	return p.part(api.NCond, at, "", test, yes, p.assign())
}

// sides reads from the left what signs bind that are at least so tight.
func (p *parser) sides(least int) *part {
	at := p.at()
	left := p.unary()
	for {
		sign := said(p.token())
		n := level(sign)
		if n < least {
			return left
		}
		p.take(sign)
		right := p.sides(n + 1)
		switch n {
		case ors:
			left = p.part(api.NOr, at, "", left, right)
		case ands:
			left = p.part(api.NAnd, at, "", left, right)
		default:
			left = p.part(api.NBinary, at, sign, left, right)
		}
	}
}

func (p *parser) unary() *part {
	if leads(said(p.token())) {
		return p.deeper(p.led)
	}
	return p.chain(true)
}

func (p *parser) led() *part {
	at := p.at()
	sign := p.text()
	return p.part(api.NUnary, at, sign, p.unary())
}

// chain reads a value and what is asked of it, one behind the other; what a new makes of is not called.
func (p *parser) chain(called bool) *part {
	at := p.at()
	x := p.head()
	for {
		switch {
		case p.skip("."):
			x = p.part(api.NMember, at, p.word(), x)
		case p.skip("["):
			key := p.assign()
			p.take("]")
			x = p.part(api.NIndex, at, "", x, key)
		case called && p.is("("):
			x = p.part(api.NCall, at, "", p.args(x)...)
		default:
			return x
		}
	}
}

// args are what is called, and what it is called with.
func (p *parser) args(callee *part) []*part {
	p.take("(")
	return append([]*part{callee}, p.listed(")", api.MaxArgs, p.assign)...)
}

// head begins a chain. A new is a level for its callee alone.
func (p *parser) head() *part {
	if !p.is("new") {
		return p.primary()
	}
	at := p.at()
	callee := p.deeper(func() *part {
		p.take("new")
		return p.chain(false)
	})
	return p.part(api.NNew, at, "", p.args(callee)...)
}

func (p *parser) primary() *part {
	t := p.token()
	switch t.Kind {
	case api.TokNumber:
		return p.number()
	case api.TokString:
		return p.part(api.NString, t.At, p.text())
	case api.TokName:
		return p.part(api.NName, t.At, p.text())
	}
	switch t.Text {
	case "true":
		return p.bare(api.NTrue, "true")
	case "false":
		return p.bare(api.NFalse, "false")
	case "null":
		return p.bare(api.NNull, "null")
	case "this":
		return p.bare(api.NThis, "this")
	case "(":
		return p.test()
	case "function":
		return p.nested()
	case "{":
		p.take("{")
		return p.part(api.NObject, t.At, "", p.listed("}", api.MaxNodes, p.pair)...)
	case "[":
		p.take("[")
		return p.part(api.NArray, t.At, "", p.listed("]", api.MaxNodes, p.assign)...)
	}
	panic(fault{t.At, api.ErrSyntax})
}

func (p *parser) number() *part {
	t := p.token()
	p.next++
	x := p.part(api.NNumber, t.At, "")
	x.Num = t.Num
	return x
}

// nested is a function within an expression, with a name or without.
func (p *parser) nested() *part {
	at := p.at()
	p.take("function")
	name := ""
	if !p.is("(") {
		name = p.name()
	}
	return p.function(api.NFunc, at, name)
}

// pair is a pair or an accessor: get and set are keys where a : stands behind them.
func (p *parser) pair() *part {
	if p.is("get") && said(p.tokens[p.next+1]) != ":" {
		return p.accessor(api.NGetter)
	}
	if p.is("set") && said(p.tokens[p.next+1]) != ":" {
		return p.accessor(api.NSetter)
	}
	at := p.at()
	key := p.key()
	p.take(":")
	return p.part(api.NPair, at, "", key, p.assign())
}

// accessor reads a getter's or a setter's key, and its function, which begins behind that.
func (p *parser) accessor(kind uint8) *part {
	at := p.at()
	p.next++
	key := p.key()
	from := p.at()
	p.take("(")
	var l []*part
	if kind == api.NSetter {
		l = append(l, p.param())
	}
	p.take(")")
	return p.part(kind, at, "", key, p.part(api.NFunc, from, "", append(l, p.block())...))
}

func (p *parser) key() *part {
	at := p.at()
	switch {
	case p.token().Kind == api.TokNumber:
		return p.number()
	case p.token().Kind == api.TokString:
		return p.part(api.NString, at, p.text())
	case p.skip("["):
		value := p.assign()
		p.take("]")
		return p.part(api.NComputed, at, "", value)
	}
	return p.part(api.NString, at, p.word())
}
