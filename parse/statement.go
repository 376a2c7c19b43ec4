package parse

import "bailiff/api"

func (p *parser) script() *part {
	at := p.at()
	var l []*part
	for p.token().Kind != api.TokEnd {
		l = append(l, p.statement())
	}
	return p.part(api.NScript, at, "", l...)
}

func (p *parser) block() *part {
	at := p.at()
	p.take("{")
	var l []*part
	for !p.skip("}") {
		l = append(l, p.statement())
	}
	return p.part(api.NBlock, at, "", l...)
}

func (p *parser) statement() *part { return p.deeper(p.stated) }

// body is a statement that declares nothing.
func (p *parser) body() *part {
	return p.deeper(func() *part {
		if p.is("let") || p.is("const") || p.is("function") {
			p.refuse(api.ErrSyntax)
		}
		return p.stated()
	})
}

func (p *parser) stated() *part {
	switch said(p.token()) {
	case "{":
		return p.block()
	case ";":
		return p.bare(api.NEmpty, ";")
	case "let", "const":
		return p.declaration()
	case "function":
		at := p.at()
		p.take("function")
		return p.function(api.NFunction, at, p.name())
	case "if":
		return p.branch()
	case "while":
		at := p.at()
		p.take("while")
		test := p.test()
		return p.part(api.NWhile, at, "", test, p.body())
	case "for":
		return p.loop()
	case "return":
		return p.answer()
	case "throw":
		at := p.at()
		p.take("throw")
		return p.part(api.NThrow, at, "", p.ended())
	case "break":
		return p.bare(api.NBreak, "break", ";")
	case "continue":
		return p.bare(api.NContinue, "continue", ";")
	case "try":
		return p.guarded()
	}
	return p.part(api.NExpr, p.at(), "", p.ended())
}

// bare is a node of its signs and words alone.
func (p *parser) bare(kind uint8, l ...string) *part {
	at := p.at()
	p.take(l...)
	return p.part(kind, at, "")
}

// ended is a value and the ; behind it.
func (p *parser) ended() *part {
	x := p.assign()
	p.take(";")
	return x
}

// test is a value in ( ).
func (p *parser) test() *part {
	p.take("(")
	x := p.assign()
	p.take(")")
	return x
}

// declarator is the word and the name with which a declaration begins; the value, if any, is its only kid.
func (p *parser) declarator() *part {
	at := p.at()
	if p.skip("const") {
		return p.part(api.NConst, at, p.name())
	}
	p.take("let")
	return p.part(api.NLet, at, p.name())
}

func (p *parser) declaration() *part {
	x := p.declarator()
	if x.Kind == api.NLet && p.skip(";") {
		return x
	}
	p.take("=")
	x.kids = []*part{p.ended()}
	return x
}

// function reads on from the params.
func (p *parser) function(kind uint8, at int, name string) *part {
	p.take("(")
	l := p.listed(")", api.MaxArgs, p.param)
	return p.part(kind, at, name, append(l, p.block())...)
}

func (p *parser) param() *part {
	at := p.at()
	return p.part(api.NName, at, p.name())
}

func (p *parser) branch() *part {
	at := p.at()
	p.take("if")
	l := []*part{p.test(), p.body()}
	if p.skip("else") {
		l = append(l, p.body())
	}
	return p.part(api.NIf, at, "", l...)
}

func (p *parser) loop() *part {
	at := p.at()
	p.take("for", "(")
	name := p.declarator()
	kind := api.NForIn
	if !p.skip("in") {
		p.take("of")
		kind = api.NForOf
	}
	value := p.assign()
	p.take(")")
	return p.part(kind, at, "", name, value, p.body())
}

func (p *parser) answer() *part {
	at := p.at()
	p.take("return")
	if p.skip(";") {
		return p.part(api.NReturn, at, "")
	}
	return p.part(api.NReturn, at, "", p.ended())
}

func (p *parser) guarded() *part {
	at := p.at()
	p.take("try")
	l := []*part{p.block()}
	if from := p.at(); p.skip("catch") {
		p.take("(")
		name := p.name()
		p.take(")")
		l = append(l, p.part(api.NCatch, from, name, p.block()))
	}
	if from := p.at(); p.skip("finally") {
		l = append(l, p.part(api.NFinally, from, "", p.block()))
	}
	if len(l) == 1 {
		p.refuse(api.ErrSyntax)
	}
	return p.part(api.NTry, at, "", l...)
}
