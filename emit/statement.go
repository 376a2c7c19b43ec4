package emit

import "bailiff/api"

func (w *writer) open(n int) { w.put(opScope, w.names[n], 0) }

// block begins the functions that are declared in a script or a block, and goes through its statements, in a scope that is open.
func (w *writer) block(x api.Node) {
	for _, n := range x.Kids {
		if w.nodes[n].Kind == api.NFunction {
			w.put(opFunc, w.codes[n], 0)
			w.put(opInit, w.slots[n].Index, 0)
		}
	}
	for _, n := range x.Kids {
		w.statement(n)
	}
}

func (w *writer) statement(n int) {
	x := w.nodes[n]
	switch x.Kind {
	case api.NBlock:
		w.open(n)
		w.block(x)
		w.plain(opLeave)
	case api.NLet, api.NConst:
		w.answer(x.Kids)
		w.put(opInit, w.slots[n].Index, 0)
	case api.NExpr:
		w.value(x.Kids[0])
		w.plain(w.behind)
	case api.NIf:
		w.branch(x)
	case api.NWhile:
		w.again(x)
	case api.NForIn:
		w.each(n, opKeys)
	case api.NForOf:
		w.each(n, opItems)
	case api.NReturn:
		w.answer(x.Kids)
		w.plain(opReturn)
	case api.NThrow:
		w.value(x.Kids[0])
		w.plain(opThrow)
	case api.NBreak:
		w.plain(opBreak)
	case api.NContinue:
		w.plain(opContinue)
	case api.NTry:
		w.guarded(x)
	}
}

// answer is a value, if there is one; else undefined.
func (w *writer) answer(l []int) {
	if len(l) == 0 {
		w.constant(api.Value{})
	}
	w.values(l)
}

func (w *writer) branch(x api.Node) {
	w.value(x.Kids[0])
	unless := w.put(opUnless, 0, 0)
	w.statement(x.Kids[1])
	if len(x.Kids) == 2 {
		w.land(unless)
		return
	}
	jump := w.put(opJump, 0, 0)
	w.land(unless)
	w.statement(x.Kids[2])
	w.land(jump)
}

func (w *writer) again(x api.Node) {
	loop := w.put(opLoop, 0, w.here()+1)
	w.value(x.Kids[0])
	unless := w.put(opUnless, 0, 0)
	w.statement(x.Kids[1])
	w.put(opJump, loop+1, 0)
	w.land(unless)
	w.plain(opUnguard)
	w.land(loop)
}

func (w *writer) each(n int, op uint8) {
	x := w.nodes[n]
	w.value(x.Kids[1])
	loop := w.put(op, 0, w.here()+1)
	next := w.put(opNext, 0, 0)
	w.open(n)
	w.put(opInit, 0, 0)
	w.statement(x.Kids[2])
	w.plain(opLeave)
	w.put(opJump, next, 0)
	w.land(next)
	w.plain(opUnguard)
	w.land(loop)
}

func (w *writer) guarded(x api.Node) {
	last := w.nodes[x.Kids[len(x.Kids)-1]]
	if last.Kind == api.NCatch {
		w.caught(x.Kids)
		return
	}
	guard := w.put(opTry, -1, 0)
	if len(x.Kids) == 2 {
		w.statement(x.Kids[0])
	} else {
		w.caught(x.Kids)
	}
	w.plain(opUnguard, opNormal)
	w.code.Instrs[guard].B = w.here()
	w.statement(last.Kids[0])
	w.plain(opResume)
}

// caught is a block and its catch, which stand first in a list.
func (w *writer) caught(l []int) {
	guard := w.put(opTry, 0, -1)
	w.statement(l[0])
	w.plain(opUnguard)
	jump := w.put(opJump, 0, 0)
	w.land(guard)
	w.open(l[1])
	w.put(opInit, 0, 0)
	w.block(w.nodes[w.nodes[l[1]].Kids[0]])
	w.plain(opLeave)
	w.land(jump)
}
