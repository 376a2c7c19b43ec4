package emit

import (
	"strings"

	"bailiff/api"
)

// known is what is known of a tree without errors.
type known struct {
	nodes []api.Node
	slots []api.Slot
	names []int // how many names the scope has that a node opens
	codes []int // the number of a function's code
}

// functions numbers the codes of the functions, and tells the functions' nodes.
func (k *known) functions() []int {
	var l []int
	for n, x := range k.nodes {
		if x.Kind == api.NFunction || x.Kind == api.NFunc {
			l = append(l, n)
			k.codes[n] = len(l)
		}
	}
	return l
}

// writer writes one code.
type writer struct {
	*known
	code   api.Code
	consts map[string]int // the numbers of Consts by their texts, which are as many as they
	hosts  map[string]int // the numbers of Names
	behind uint8          // what an expression's value comes to
}

func newWriter(k *known, behind uint8) *writer {
	return &writer{known: k, consts: map[string]int{}, hosts: map[string]int{}, behind: behind}
}

func (w *writer) script() api.Code {
	x := w.nodes[0]
	w.code.Slots = w.names[0]
	w.open(0)
	w.block(x)
	w.plain(opEnd)
	return w.code
}

func (w *writer) function(n int) api.Code {
	x := w.nodes[n]
	last := len(x.Kids) - 1
	params, block := x.Kids[:last], w.nodes[x.Kids[last]]
	w.code.Params, w.code.Slots = last, w.names[n]
	w.open(n)
	if w.names[n] > last+w.declared(block) {
		w.put(opOwn, 0, 0)
	}
	for i, p := range params {
		w.put(opArg, i, w.slots[p].Index)
	}
	w.block(block)
	w.answer(nil)
	w.plain(opReturn)
	return w.code
}

// declared is how many names are declared in a block. A function's scope that has one more than these and the params has its own name, too: the same name twice would be an early error.
func (w *writer) declared(block api.Node) int {
	count := 0
	for _, n := range block.Kids {
		switch w.nodes[n].Kind {
		case api.NLet, api.NConst, api.NFunction:
			count++
		}
	}
	return count
}

// here is the place of the next instruction.
func (w *writer) here() int { return len(w.code.Instrs) }

// put appends an instruction, and tells its place.
func (w *writer) put(op uint8, a, b int) int {
	w.code.Instrs = append(w.code.Instrs, api.Instr{Op: op, A: a, B: b})
	return w.here() - 1
}

// plain appends instructions without A and B.
func (w *writer) plain(l ...uint8) {
	for _, op := range l {
		w.put(op, 0, 0)
	}
}

// land patches the A of an instruction that leads to what comes next.
func (w *writer) land(at int) { w.code.Instrs[at].A = w.here() }

// operate appends an operation of op.
func (w *writer) operate(name string) { w.put(opOp, operation(name), 0) }

// constant appends a const, and puts it among Consts, if it is not there.
func (w *writer) constant(v api.Value) {
	text := constText(v)
	n, is := w.consts[text]
	if !is {
		n = len(w.code.Consts)
		w.consts[text] = n
		v.Str = strings.Clone(v.Str)
		w.code.Consts = append(w.code.Consts, v)
	}
	w.put(opConst, n, 0)
}

func (w *writer) text(s string) { w.constant(api.Value{Kind: api.String, Str: s}) }

// host appends a name of the host's, and puts it among Names, if it is not there.
func (w *writer) host(name string) {
	n, is := w.hosts[name]
	if !is {
		n = len(w.code.Names)
		w.hosts[name] = n
		w.code.Names = append(w.code.Names, strings.Clone(name))
	}
	w.put(opHost, n, 0)
}
