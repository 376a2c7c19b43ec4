package scope_test

import (
	"slices"

	"bailiff/api"
)

// model answers the chapter's words one by one, each anew from the tree: whose kid a node is, which scopes stand about it, what these have.
type model struct {
	nodes []api.Node
	above []int // the node whose kid it is; -1 of the whole
	nth   []int // which one of its kids it is
}

// entry is a name that a scope has, and the node from which it has it.
type entry struct {
	name string
	from int
}

func newModel(t api.Tree) *model {
	m := &model{t.Nodes, make([]int, len(t.Nodes)), make([]int, len(t.Nodes))}
	m.above[0] = -1
	for n, x := range t.Nodes {
		for i, k := range x.Kids {
			m.above[k], m.nth[k] = n, i
		}
	}
	return m
}

func (m *model) is(n int, kinds ...uint8) bool {
	return n >= 0 && slices.Contains(kinds, m.nodes[n].Kind)
}

func (m *model) kid(n, i int) int { return m.nodes[n].Kids[i] }

func (m *model) function(n int) bool { return m.is(n, api.NFunction, api.NFunc) }

func (m *model) loop(n int) bool { return m.is(n, api.NForIn, api.NForOf) }

func (m *model) param(n int) bool {
	return m.is(n, api.NName) && m.function(m.above[n])
}

func (m *model) opens(n int) bool {
	if m.is(n, api.NBlock) {
		return !m.function(m.above[n]) && !m.is(m.above[n], api.NCatch)
	}
	return m.is(n, api.NScript, api.NCatch) || m.function(n) || m.loop(n)
}

func (m *model) declared(n int) []entry {
	var l []entry
	for _, k := range m.nodes[n].Kids {
		if m.is(k, api.NLet, api.NConst, api.NFunction) {
			l = append(l, entry{m.nodes[k].Text, k})
		}
	}
	return l
}

// entries are what a scope has, with what makes it an early error.
func (m *model) entries(n int) []entry {
	x := m.nodes[n]
	last := len(x.Kids) - 1
	switch {
	case m.loop(n):
		return []entry{{m.nodes[x.Kids[0]].Text, x.Kids[0]}}
	case m.is(n, api.NCatch):
		return append([]entry{{x.Text, n}}, m.declared(x.Kids[0])...)
	case m.function(n):
		var l []entry
		for _, k := range x.Kids[:last] {
			l = append(l, entry{m.nodes[k].Text, k})
		}
		l = append(l, m.declared(x.Kids[last])...)
		own := m.is(n, api.NFunc) && x.Text != ""
		for _, k := range l {
			own = own && k.name != x.Text
		}
		if own {
			l = append([]entry{{x.Text, n}}, l...)
		}
		return l
	}
	return m.declared(n)
}

// about are the scopes in which a node stands, the innermost first.
func (m *model) about(n int) []int {
	var l []int
	for up := m.above[n]; up >= 0; n, up = up, m.above[up] {
		if m.opens(up) && !(m.loop(up) && m.nth[n] == 1) {
			l = append(l, up)
		}
	}
	return l
}

// found is how many scopes are ahead of the one that has a node's name, and its entries of that name; -1: none has it.
func (m *model) found(n int) (int, []entry) {
	for hops, s := range m.about(n) {
		var l []entry
		for _, x := range m.entries(s) {
			if x.name == m.nodes[n].Text {
				l = append(l, x)
			}
		}
		if l != nil {
			return hops, l
		}
	}
	return -1, nil
}

func (m *model) fixed(l []entry) bool {
	return slices.ContainsFunc(l, func(x entry) bool { return m.is(x.from, api.NConst, api.NFunc) })
}

// names tells whether a node puts a name in the innermost of the scopes about it.
func (m *model) names(n int) bool {
	return m.is(n, api.NLet, api.NConst, api.NFunction) || m.param(n)
}

func (m *model) twice(n int) bool {
	if !m.names(n) || m.loop(m.above[n]) {
		return false
	}
	for _, x := range m.entries(m.about(n)[0]) {
		if x.from == n {
			return false
		}
		if x.name == m.nodes[n].Text {
			return true
		}
	}
	panic("a name that its scope has not")
}

func (m *model) misassigned(n int) bool {
	if !m.is(n, api.NName) || !m.is(m.above[n], api.NAssign) || m.nth[n] != 0 {
		return false
	}
	_, l := m.found(n)
	return l == nil || m.fixed(l)
}

// astray tells of a break or continue that is in no loop's body.
func (m *model) astray(n int) bool {
	if !m.is(n, api.NBreak, api.NContinue) {
		return false
	}
	for up := m.above[n]; up >= 0 && !m.function(up); n, up = up, m.above[up] {
		if m.loop(up) && m.nth[n] == 2 || m.is(up, api.NWhile) && m.nth[n] == 1 {
			return false
		}
	}
	return true
}

func (m *model) unanswered(n int) bool {
	if !m.is(n, api.NReturn) {
		return false
	}
	for n >= 0 && !m.function(n) {
		n = m.above[n]
	}
	return n < 0
}

func (m *model) undeletable(n int) bool {
	return m.is(n, api.NUnary) && m.nodes[n].Text == "delete" && m.is(m.kid(n, 0), api.NName)
}

// early is the first node with an early error; -1: none has one.
func (m *model) early() int {
	for n := range m.nodes {
		if m.twice(n) || m.misassigned(n) || m.astray(n) || m.unanswered(n) || m.undeletable(n) {
			return n
		}
	}
	return -1
}

func (m *model) frees() []string {
	had := map[string]bool{}
	var l []string
	for n, x := range m.nodes {
		if !m.is(n, api.NName) || m.param(n) || had[x.Text] {
			continue
		}
		if hops, _ := m.found(n); hops < 0 {
			had[x.Text] = true
			l = append(l, x.Text)
		}
	}
	slices.Sort(l)
	return l
}

func (m *model) slot(n int, frees []string) api.Slot {
	if !m.names(n) && !m.is(n, api.NName) {
		return api.Slot{Hops: -2}
	}
	hops, _ := m.found(n)
	if hops < 0 {
		return api.Slot{Hops: -1, Index: slices.Index(frees, m.nodes[n].Text)}
	}
	at := slices.IndexFunc(m.entries(m.about(n)[hops]), func(x entry) bool { return x.name == m.nodes[n].Text })
	return api.Slot{Hops: hops, Index: at}
}

func (m *model) slots() []api.Slot {
	var l []api.Slot
	frees := m.frees()
	for n := range m.nodes {
		l = append(l, m.slot(n, frees))
	}
	return l
}

func (m *model) scopes() (nodes, names []int) {
	for n := range m.nodes {
		if m.opens(n) {
			nodes = append(nodes, n)
			names = append(names, len(m.entries(n)))
		}
	}
	return nodes, names
}
