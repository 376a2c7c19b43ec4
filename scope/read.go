package scope

import (
	"slices"

	"bailiff/api"
)

// reader goes through the nodes of a tree that may be, each ahead of its kids.
type reader struct {
	nodes     []api.Node
	slots     []api.Slot
	free      []int // the nodes whose names are found nowhere: their slots wait till all such names are known
	counts    []int // how many names the scope has that a node opens; -1: it opens none
	early     int   // the least node with an early error; how many nodes there are, if none has one
	open      []scope
	found     map[string]*spot // where each name is found by what stands in the open scopes
	loops     int              // how many loops' bodies it is in, of the innermost function
	functions int
}

// scope is an open one: its node, and its names in their order.
type scope struct {
	node  int
	names []string
}

// spot is where a name is found: in the scope that is the depth-th open one, at a number.
type spot struct {
	depth, index int
	fixed        bool // nothing may be assigned to it
	hides        *spot
}

// refuse tells of an early error. They don't come up in their nodes' order: a scope's names are known ahead of what stands in it.
func (r *reader) refuse(n int) { r.early = min(r.early, n) }

// within goes through what stands in the scope that a node opens. Behind it its names find again what they hid.
func (r *reader) within(n int, inside func()) {
	r.open = append(r.open, scope{node: n})
	inside()
	last := len(r.open) - 1
	names := r.open[last].names
	for _, name := range names {
		if outer := r.found[name].hides; outer != nil {
			r.found[name] = outer
		} else {
			delete(r.found, name)
		}
	}
	r.counts[n] = len(names)
	r.open = r.open[:last]
}

// add puts a name in the innermost scope, and tells whether it stood there already.
func (r *reader) add(name string, fixed bool) bool {
	depth := len(r.open)
	s := &r.open[depth-1]
	old := r.found[name]
	if old != nil && old.depth == depth {
		old.fixed = old.fixed || fixed
		return true
	}
	r.found[name] = &spot{depth, len(s.names), fixed, old}
	s.names = append(s.names, name)
	return false
}

// declare puts the names of nodes in the innermost scope.
func (r *reader) declare(l []int) {
	for _, n := range l {
		x := r.nodes[n]
		if r.add(x.Text, x.Kind == api.NConst) {
			r.refuse(n)
		}
		r.slots[n] = api.Slot{Index: r.found[x.Text].index}
	}
}

// declared are the nodes whose names are declared in a script or a block.
func (r *reader) declared(x api.Node) []int {
	var l []int
	for _, k := range x.Kids {
		switch r.nodes[k].Kind {
		case api.NLet, api.NConst, api.NFunction:
			l = append(l, k)
		}
	}
	return l
}

func (r *reader) walk(n int) {
	x := r.nodes[n]
	switch x.Kind {
	case api.NScript, api.NBlock:
		r.within(n, func() { r.block(x) })
	case api.NFunction, api.NFunc:
		r.within(n, func() { r.function(x) })
	case api.NCatch:
		r.within(n, func() {
			r.add(x.Text, false)
			r.block(r.nodes[x.Kids[0]])
		})
	case api.NForIn, api.NForOf:
		r.walk(x.Kids[1])
		r.within(n, func() {
			r.declare(x.Kids[:1])
			r.body(x.Kids[2])
		})
	case api.NWhile:
		r.walk(x.Kids[0])
		r.body(x.Kids[1])
	default:
		r.judge(n)
		r.all(x.Kids)
	}
}

func (r *reader) all(l []int) {
	for _, n := range l {
		r.walk(n)
	}
}

// block goes through statements, in a scope that is open.
func (r *reader) block(x api.Node) {
	r.declare(r.declared(x))
	r.all(x.Kids)
}

// body goes through what a loop does again and again.
func (r *reader) body(n int) {
	r.loops++
	r.walk(n)
	r.loops--
}

// function goes through a function, in its scope. No loop about it is one for what is in it.
func (r *reader) function(x api.Node) {
	last := len(x.Kids) - 1
	block := r.nodes[x.Kids[last]]
	names := slices.Concat(x.Kids[:last], r.declared(block))
	if x.Kind == api.NFunc && x.Text != "" && !r.named(names, x.Text) {
		r.add(x.Text, true)
	}
	r.declare(names)
	loops := r.loops
	r.loops = 0
	r.functions++
	r.all(block.Kids)
	r.functions--
	r.loops = loops
}

// named tells whether one of the nodes has a name.
func (r *reader) named(l []int, name string) bool {
	return slices.ContainsFunc(l, func(n int) bool { return r.nodes[n].Text == name })
}

// judge finds a node's name, and tells of an early error at it or its first kid.
func (r *reader) judge(n int) {
	x := r.nodes[n]
	switch x.Kind {
	case api.NName:
		r.find(n)
	case api.NAssign:
		r.assigned(x.Kids[0])
	case api.NBreak, api.NContinue:
		if r.loops == 0 {
			r.refuse(n)
		}
	case api.NReturn:
		if r.functions == 0 {
			r.refuse(n)
		}
	case api.NUnary:
		if x.Text == "delete" && r.nodes[x.Kids[0]].Kind == api.NName {
			r.refuse(n)
		}
	}
}

func (r *reader) find(n int) {
	p := r.found[r.nodes[n].Text]
	if p == nil {
		r.free = append(r.free, n)
		return
	}
	r.slots[n] = api.Slot{Hops: len(r.open) - p.depth, Index: p.index}
}

// assigned looks at what is assigned to: a name must be found, and not fixed.
func (r *reader) assigned(n int) {
	if r.nodes[n].Kind != api.NName {
		return
	}
	if p := r.found[r.nodes[n].Text]; p == nil || p.fixed {
		r.refuse(n)
	}
}
