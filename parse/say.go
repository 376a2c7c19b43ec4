package parse

import (
	"bailiff/api"
	"bailiff/lex"
)

// value tells a value where any may stand.
func (w *writer) value(n int) { w.held(n, 0) }

// held tells a value where what stands must hold together so tight at least, in ( ) if it does not.
func (w *writer) held(n, least int) {
	x := w.nodes[n]
	has := tight(x)
	if has < 0 {
		w.refuse()
	}
	if has >= least && !w.misread(x) {
		w.bare(x, least)
		return
	}
	w.say("(")
	w.bare(x, 0)
	w.say(")")
}

// misread tells whether a value would begin its statement as a block or a function does.
func (w *writer) misread(x api.Node) bool {
	return len(w.tokens) == w.first && (x.Kind == api.NObject || x.Kind == api.NFunc)
}

// tight is how tight a value holds together; below 0: it is none.
func tight(x api.Node) int {
	switch x.Kind {
	case api.NNumber, api.NString, api.NTrue, api.NFalse, api.NNull, api.NThis, api.NName, api.NFunc, api.NObject, api.NArray, api.NNew, api.NMember, api.NIndex:
		return callees
	case api.NCall:
		return calls
	case api.NUnary:
		if leads(x.Text) {
			return unaries
		}
	case api.NBinary:
		if n := level(x.Text); n > ands {
			return n
		}
	case api.NAnd:
		return ands
	case api.NOr:
		return ors
	case api.NCond:
		return 0
	case api.NAssign:
		if puts(x.Text) {
			return 0
		}
	}
	return -1
}

// bare tells a value without ( ) about it.
func (w *writer) bare(x api.Node, least int) {
	switch x.Kind {
	case api.NNumber:
		w.put(api.TokNumber, "", x.Num)
	case api.NString:
		w.put(api.TokString, x.Text, 0)
	case api.NName:
		w.name(x.Text)
	case api.NFunc:
		w.say("function")
		if x.Text != "" {
			w.name(x.Text)
		}
		w.function(x)
	case api.NObject:
		w.say("{")
		w.listed(x.Kids, api.MaxNodes, w.pair)
		w.say("}")
	case api.NArray:
		w.say("[")
		w.listed(x.Kids, api.MaxNodes, w.value)
		w.say("]")
	case api.NMember, api.NIndex, api.NCall:
		w.chain(x, least)
	case api.NNew:
		w.say("new")
		w.held(x.Kids[0], callees)
		w.args(x)
	case api.NUnary:
		w.say(x.Text)
		w.held(x.Kids[0], unaries)
	case api.NAnd:
		w.sides(x, "&&")
	case api.NOr:
		w.sides(x, "||")
	case api.NBinary:
		w.sides(x, x.Text)
	case api.NCond:
		w.held(x.Kids[0], ors)
		w.say("?")
		w.value(x.Kids[1])
		w.say(":")
		w.value(x.Kids[2])
	case api.NAssign:
		w.held(w.target(x.Kids[0]), 0)
		w.say(x.Text)
		w.value(x.Kids[1])
	default:
		w.say(Kind(x.Kind))
	}
}

func (w *writer) target(n int) int {
	if !target(w.nodes[n].Kind) {
		w.refuse()
	}
	return n
}

// sides tells both sides of a sign: what binds as tight as it may stand on its left alone.
func (w *writer) sides(x api.Node, sign string) {
	n := level(sign)
	w.held(x.Kids[0], n)
	w.say(sign)
	w.held(x.Kids[1], n+1)
}

// chain tells what is asked of a value. Where a new's callee stands, a call may not stand anywhere ahead.
func (w *writer) chain(x api.Node, least int) {
	w.held(x.Kids[0], max(least, calls))
	switch x.Kind {
	case api.NMember:
		w.say(".")
		w.word(x.Text)
	case api.NIndex:
		w.say("[")
		w.value(x.Kids[1])
		w.say("]")
	default:
		w.args(x)
	}
}

// word puts a name or a reserved word.
func (w *writer) word(s string) {
	if lex.Word(s) {
		w.say(s)
	} else {
		w.name(s)
	}
}

func (w *writer) args(x api.Node) {
	w.say("(")
	w.listed(x.Kids[1:], api.MaxArgs, w.value)
	w.say(")")
}

func (w *writer) pair(n int) {
	x := w.kid(n, api.NPair, api.NGetter, api.NSetter)
	switch x.Kind {
	case api.NPair:
		w.key(x.Kids[0])
		w.say(":")
		w.value(x.Kids[1])
	case api.NGetter:
		w.name("get")
		w.key(x.Kids[0])
		w.accessor(x.Kids[1], 0)
	case api.NSetter:
		w.name("set")
		w.key(x.Kids[0])
		w.accessor(x.Kids[1], 1)
	}
}

// accessor tells a function that has no name, and so many params.
func (w *writer) accessor(n, params int) {
	x := w.kid(n, api.NFunc)
	if x.Text != "" || len(x.Kids) != params+1 {
		w.refuse()
	}
	w.function(x)
}

func (w *writer) key(n int) {
	x := w.kid(n, api.NString, api.NNumber, api.NComputed)
	if x.Kind != api.NComputed {
		w.bare(x, 0)
		return
	}
	w.say("[")
	w.value(x.Kids[0])
	w.say("]")
}
