package parse

import (
	"bailiff/api"
	"bailiff/lex"
)

// Check tells whether a tree may be.
func Check(t api.Tree) api.Errno {
	_, e := told(t)
	return e
}

// Text writes a tree as a text from which it is read.
func Text(t api.Tree) (string, api.Errno) {
	l, e := told(t)
	if e != api.OK {
		return "", e
	}
	return lex.Text(l)
}

// told are the tokens from which a tree is read. They are read again, since what is well in each place may still be read otherwise: an else goes to the nearest if.
func told(t api.Tree) ([]api.Token, api.Errno) {
	if len(t.Nodes) > api.MaxNodes {
		return nil, api.ErrMany
	}
	if !built(t) {
		return nil, api.ErrSyntax
	}
	w := &writer{nodes: t.Nodes}
	if f := caught(w.script); f.e != api.OK {
		return nil, f.e
	}
	l := append(w.tokens, api.Token{Kind: api.TokEnd})
	again, _, e := Tree(l)
	if e == api.ErrDeep {
		return nil, e
	}
	if e != api.OK || !Same(again, t) {
		return nil, api.ErrSyntax
	}
	return l, api.OK
}

// writer tells the tokens of nodes that are built as a tree. A node that may not stand where it stands comes up as a fault.
type writer struct {
	nodes  []api.Node
	tokens []api.Token
	first  int // how many tokens stand ahead of the NExpr that was begun last
}

func (w *writer) refuse() { panic(fault{e: api.ErrSyntax}) }

func (w *writer) put(kind uint8, text string, n float64) {
	if len(w.tokens) == api.MaxTokens {
		panic(fault{e: api.ErrMany})
	}
	w.tokens = append(w.tokens, api.Token{Kind: kind, Text: text, Num: n})
}

// say puts signs and reserved words.
func (w *writer) say(l ...string) {
	for _, s := range l {
		if lex.Word(s) {
			w.put(api.TokWord, s, 0)
		} else {
			w.put(api.TokSign, s, 0)
		}
	}
}

// name puts a name. Whether it is one shows when the tokens are read.
func (w *writer) name(s string) { w.put(api.TokName, s, 0) }

// kid is a node that must be of one of some kinds.
func (w *writer) kid(n int, kinds ...uint8) api.Node {
	for _, k := range kinds {
		if w.nodes[n].Kind == k {
			return w.nodes[n]
		}
	}
	w.refuse()
	return api.Node{}
}

// listed tells nodes with commas between.
func (w *writer) listed(l []int, most int, each func(int)) {
	for i, n := range l {
		if i > 0 {
			w.say(",")
		}
		if i == most {
			w.refuse()
		}
		each(n)
	}
}

func (w *writer) script() {
	for _, n := range w.nodes[0].Kids {
		w.statement(n)
	}
}

func (w *writer) block(n int) {
	x := w.kid(n, api.NBlock)
	w.say("{")
	for _, k := range x.Kids {
		w.statement(k)
	}
	w.say("}")
}

// body is a statement that declares nothing.
func (w *writer) body(n int) {
	switch w.nodes[n].Kind {
	case api.NLet, api.NConst, api.NFunction:
		w.refuse()
	}
	w.statement(n)
}

func (w *writer) statement(n int) {
	x := w.nodes[n]
	switch x.Kind {
	case api.NBlock:
		w.block(n)
	case api.NEmpty:
		w.say(";")
	case api.NLet, api.NConst:
		w.declaration(x)
	case api.NFunction:
		w.say("function")
		w.name(x.Text)
		w.function(x)
	case api.NExpr:
		w.first = len(w.tokens)
		w.value(x.Kids[0])
		w.say(";")
	case api.NIf:
		w.branch(x)
	case api.NWhile:
		w.say("while")
		w.test(x.Kids[0])
		w.body(x.Kids[1])
	case api.NForIn, api.NForOf:
		w.loop(x)
	case api.NReturn, api.NThrow:
		w.say(Kind(x.Kind))
		for _, k := range x.Kids {
			w.value(k)
		}
		w.say(";")
	case api.NBreak, api.NContinue:
		w.say(Kind(x.Kind), ";")
	case api.NTry:
		w.guarded(x)
	default:
		w.refuse()
	}
}

func (w *writer) declaration(x api.Node) {
	if x.Kind == api.NConst && len(x.Kids) == 0 {
		w.refuse()
	}
	w.say(Kind(x.Kind))
	w.name(x.Text)
	for _, k := range x.Kids {
		w.say("=")
		w.value(k)
	}
	w.say(";")
}

// function tells a function from its params on.
func (w *writer) function(x api.Node) {
	last := len(x.Kids) - 1
	w.say("(")
	w.listed(x.Kids[:last], api.MaxArgs, w.param)
	w.say(")")
	w.block(x.Kids[last])
}

func (w *writer) param(n int) { w.name(w.kid(n, api.NName).Text) }

// test tells a value in ( ).
func (w *writer) test(n int) {
	w.say("(")
	w.value(n)
	w.say(")")
}

func (w *writer) branch(x api.Node) {
	w.say("if")
	w.test(x.Kids[0])
	w.body(x.Kids[1])
	for _, k := range x.Kids[2:] {
		w.say("else")
		w.body(k)
	}
}

func (w *writer) loop(x api.Node) {
	w.say("for", "(")
	name := w.kid(x.Kids[0], api.NLet, api.NConst)
	if len(name.Kids) > 0 {
		w.refuse()
	}
	w.say(Kind(name.Kind))
	w.name(name.Text)
	if x.Kind == api.NForIn {
		w.say("in")
	} else {
		w.name("of")
	}
	w.value(x.Kids[1])
	w.say(")")
	w.body(x.Kids[2])
}

// guarded tells a try: a finally stands last, and a catch right behind the block.
func (w *writer) guarded(x api.Node) {
	w.say("try")
	w.block(x.Kids[0])
	last := x.Kids[len(x.Kids)-1]
	if len(x.Kids) == 3 || w.nodes[last].Kind == api.NCatch {
		c := w.kid(x.Kids[1], api.NCatch)
		w.say("catch", "(")
		w.name(c.Text)
		w.say(")")
		w.block(c.Kids[0])
	}
	if len(x.Kids) == 3 || w.nodes[last].Kind != api.NCatch {
		f := w.kid(last, api.NFinally)
		w.say("finally")
		w.block(f.Kids[0])
	}
}
