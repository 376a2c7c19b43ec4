package emit

import (
	"strings"

	"bailiff/api"
	"bailiff/num"
)

func (w *writer) value(n int) {
	x := w.nodes[n]
	switch x.Kind {
	case api.NThis:
		w.plain(opThis)
	case api.NName:
		w.name(n, opLoad)
	case api.NFunc:
		w.put(opFunc, w.codes[n], 0)
	case api.NObject:
		w.object(x)
	case api.NArray:
		w.values(x.Kids)
		w.put(opArray, len(x.Kids), 0)
	case api.NMember, api.NIndex:
		w.value(x.Kids[0])
		w.member(x)
		w.operate("get")
	case api.NCall:
		w.call(x)
	case api.NNew:
		w.values(x.Kids)
		w.put(opNew, len(x.Kids)-1, 0)
	case api.NUnary:
		w.unary(x)
	case api.NBinary:
		w.values(x.Kids)
		w.operate(x.Text)
	case api.NAnd:
		w.short(x, opAnd)
	case api.NOr:
		w.short(x, opOr)
	case api.NCond:
		w.branches(x)
	case api.NAssign:
		w.assign(x)
	default:
		w.literal(x)
	}
}

func (w *writer) values(l []int) {
	for _, n := range l {
		w.value(n)
	}
}

func (w *writer) literal(x api.Node) {
	switch x.Kind {
	case api.NNumber:
		w.constant(api.Value{Kind: api.Number, Num: x.Num})
	case api.NString:
		w.text(x.Text)
	case api.NTrue:
		w.constant(api.Value{Kind: api.Boolean, Num: 1})
	case api.NFalse:
		w.constant(api.Value{Kind: api.Boolean})
	case api.NNull:
		w.constant(api.Value{Kind: api.Null})
	}
}

// name loads or stores a name. What is stored is never the host's: that is an early error.
func (w *writer) name(n int, op uint8) {
	s := w.slots[n]
	if s.Hops < 0 {
		w.host(w.nodes[n].Text)
		return
	}
	w.put(op, s.Hops, s.Index)
}

// member is which member of an object it is, behind the object.
func (w *writer) member(x api.Node) {
	if x.Kind == api.NMember {
		w.text(x.Text)
		return
	}
	w.value(x.Kids[1])
}

func (w *writer) object(x api.Node) {
	w.plain(opObject)
	for _, n := range x.Kids {
		pair := w.nodes[n]
		w.plain(opDup)
		w.key(w.nodes[pair.Kids[0]])
		w.value(pair.Kids[1])
		switch pair.Kind {
		case api.NPair:
			w.put(opDefine, data, 0)
		case api.NGetter:
			w.put(opDefine, getter, 0)
		case api.NSetter:
			w.put(opDefine, setter, 0)
		}
	}
}

// key is a pair's.
func (w *writer) key(x api.Node) {
	switch x.Kind {
	case api.NString:
		w.text(x.Text)
	case api.NNumber:
		w.text(num.Text(x.Num))
	case api.NComputed:
		w.value(x.Kids[0])
		w.plain(opKey)
	}
}

func (w *writer) call(x api.Node) {
	callee := w.nodes[x.Kids[0]]
	switch callee.Kind {
	case api.NMember, api.NIndex:
		w.value(callee.Kids[0])
		w.plain(opDup)
		w.member(callee)
		w.operate("get")
		w.plain(opSwap)
	default:
		w.value(x.Kids[0])
		w.constant(api.Value{})
	}
	w.values(x.Kids[1:])
	w.put(opCall, len(x.Kids)-1, 0)
}

func (w *writer) unary(x api.Node) {
	switch x.Text {
	case "void":
		w.value(x.Kids[0])
		w.plain(opPop)
		w.constant(api.Value{})
	case "delete":
		w.erase(x.Kids[0])
	default:
		w.value(x.Kids[0])
		w.operate(led(x.Text))
	}
}

// led is the operation of a sign or word that stands ahead of its one side.
func led(sign string) string {
	switch sign {
	case "-":
		return "neg"
	case "+":
		return "pos"
	}
	return sign
}

func (w *writer) erase(n int) {
	x := w.nodes[n]
	switch x.Kind {
	case api.NMember, api.NIndex:
		w.value(x.Kids[0])
		w.member(x)
		w.operate("delete")
	default:
		w.value(n)
		w.plain(opPop)
		w.constant(api.Value{Kind: api.Boolean, Num: 1})
	}
}

func (w *writer) short(x api.Node, op uint8) {
	w.value(x.Kids[0])
	at := w.put(op, 0, 0)
	w.value(x.Kids[1])
	w.land(at)
}

func (w *writer) branches(x api.Node) {
	w.value(x.Kids[0])
	unless := w.put(opUnless, 0, 0)
	w.value(x.Kids[1])
	jump := w.put(opJump, 0, 0)
	w.land(unless)
	w.value(x.Kids[2])
	w.land(jump)
}

func (w *writer) assign(x api.Node) {
	target := w.nodes[x.Kids[0]]
	with := strings.TrimSuffix(x.Text, "=")
	if target.Kind == api.NName {
		if with != "" {
			w.name(x.Kids[0], opLoad)
		}
		w.changed(x, with)
		w.name(x.Kids[0], opStore)
		return
	}
	w.value(target.Kids[0])
	w.member(target)
	if with != "" {
		w.plain(opKey, opDup2)
		w.operate("get")
	}
	w.changed(x, with)
	w.operate("set")
}

// changed is what is assigned: the value, or what an operation comes to of what was there and the value.
func (w *writer) changed(x api.Node, with string) {
	w.value(x.Kids[1])
	if with != "" {
		w.operate(with)
	}
}
