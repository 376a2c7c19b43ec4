package emit_test

import (
	"slices"
	"strconv"
	"strings"

	"bailiff/api"
	"bailiff/num"
	"bailiff/scope"
	"bailiff/str"
)

// model answers the chapter's rows as they stand there: $ and a number is that kid, single capitals are places, of each node its own.
type model struct {
	nodes    []api.Node
	slots    []api.Slot
	counts   map[int]int // of the nodes that open a scope
	numbers  map[int]int // of the functions' codes
	function bool        // what is written is within one
	places   int
}

// modelled are the listings of a tree's codes.
func modelled(t api.Tree) []string {
	m := &model{nodes: t.Nodes, counts: map[int]int{}, numbers: map[int]int{}}
	m.slots, _ = scope.Slots(t)
	opening, counts, _ := scope.Scopes(t)
	for i, n := range opening {
		m.counts[n] = counts[i]
	}
	l := []int{0}
	for n := range t.Nodes {
		if m.is(n, api.NFunction, api.NFunc) {
			m.numbers[n] = len(l)
			l = append(l, n)
		}
	}
	var all []string
	for i, n := range l {
		m.function = i > 0
		params, items := 0, m.statement(n)
		if m.function {
			params = len(t.Nodes[n].Kids) - 1
			items = m.body(n)
		}
		all = append(all, strconv.Itoa(params)+" "+strconv.Itoa(m.counts[n])+": "+resolved(items))
	}
	return all
}

func (m *model) is(n int, kinds ...uint8) bool { return slices.Contains(kinds, m.nodes[n].Kind) }

// fill is a row of a node, its kids and places filled in.
func (m *model) fill(n int, row string) []string {
	places := map[string]string{}
	var l []string
	for _, item := range strings.Split(row, ";") {
		item = strings.TrimSpace(item)
		words := strings.Split(item, " ")
		switch {
		case item == "":
			continue
		case item[0] == '$':
			l = append(l, m.node(m.nodes[n].Kids[number(item[1:])])...)
			continue
		case words[0] == "const" || words[0] == "host":
			l = append(l, item)
			continue
		}
		for i, s := range words {
			if place := strings.TrimSuffix(s, ":"); len(place) == 1 && 'A' <= place[0] && place[0] <= 'Z' {
				if places[place] == "" {
					m.places++
					places[place] = "@" + strconv.Itoa(m.places)
				}
				words[i] = places[place] + s[1:]
			}
		}
		l = append(l, strings.Join(words, " "))
	}
	return l
}

func (m *model) node(n int) []string {
	if m.nodes[n].Kind <= api.NFinally {
		return m.statement(n)
	}
	return m.value(n)
}

// kids are a node's from one on, one behind the other.
func (m *model) kids(n, from int) string {
	s := ""
	for i := range m.nodes[n].Kids[from:] {
		s += "; $" + strconv.Itoa(from+i)
	}
	return s
}

// begins is a scope's beginning; inside is the node whose kids are declared there.
func (m *model) begins(n, inside int) string {
	s := "scope " + strconv.Itoa(m.counts[n])
	x := m.nodes[n]
	if m.is(n, api.NCatch) {
		s += "; init 0"
	}
	if m.is(n, api.NFunction, api.NFunc) {
		last := len(x.Kids) - 1
		own := m.is(n, api.NFunc) && x.Text != ""
		for _, k := range x.Kids[:last] {
			own = own && m.nodes[k].Text != x.Text
		}
		for _, k := range m.nodes[x.Kids[last]].Kids {
			own = own && !(m.is(k, api.NLet, api.NConst, api.NFunction) && m.nodes[k].Text == x.Text)
		}
		if own {
			s += "; own 0"
		}
		for i, k := range x.Kids[:last] {
			s += "; arg " + strconv.Itoa(i) + " " + strconv.Itoa(m.slots[k].Index)
		}
	}
	for _, k := range m.nodes[inside].Kids {
		if m.is(k, api.NFunction) {
			s += "; func " + strconv.Itoa(m.numbers[k]) + "; init " + strconv.Itoa(m.slots[k].Index)
		}
	}
	return s
}

func (m *model) body(n int) []string {
	kids := m.nodes[n].Kids
	block := kids[len(kids)-1]
	return slices.Concat(m.fill(n, m.begins(n, block)), m.fill(block, m.kids(block, 0)), []string{"const undefined", "return"})
}

func (m *model) statement(n int) []string {
	x := m.nodes[n]
	value := "const undefined"
	if len(x.Kids) > 0 {
		value = "$0"
	}
	switch x.Kind {
	case api.NScript:
		return m.fill(n, m.begins(n, n)+m.kids(n, 0)+"; end")
	case api.NBlock:
		return m.fill(n, m.begins(n, n)+m.kids(n, 0)+"; leave")
	case api.NLet, api.NConst:
		return m.fill(n, value+"; init "+strconv.Itoa(m.slots[n].Index))
	case api.NExpr:
		if m.function {
			return m.fill(n, "$0; pop")
		}
		return m.fill(n, "$0; keep")
	case api.NIf:
		if len(x.Kids) == 2 {
			return m.fill(n, "$0; unless L; $1; L:")
		}
		return m.fill(n, "$0; unless L; $1; jump M; L:; $2; M:")
	case api.NWhile:
		return m.fill(n, "loop E L; L:; $0; unless X; $1; jump L; X:; unguard; E:")
	case api.NForIn:
		return m.fill(n, "$1; keys E L; L:; next X; scope 1; init 0; $2; leave; jump L; X:; unguard; E:")
	case api.NForOf:
		return m.fill(n, "$1; items E L; L:; next X; scope 1; init 0; $2; leave; jump L; X:; unguard; E:")
	case api.NReturn:
		return m.fill(n, value+"; return")
	case api.NThrow:
		return m.fill(n, "$0; throw")
	case api.NBreak:
		return []string{"break"}
	case api.NContinue:
		return []string{"continue"}
	case api.NTry:
		return m.guarded(n)
	case api.NCatch:
		block := x.Kids[0]
		return slices.Concat(m.fill(n, m.begins(n, block)), m.fill(block, m.kids(block, 0)), []string{"leave"})
	case api.NFinally:
		return m.fill(n, "$0")
	}
	return nil
}

func (m *model) guarded(n int) []string {
	kids := m.nodes[n].Kids
	switch {
	case len(kids) == 3:
		return m.fill(n, "try -1 F; try C -1; $0; unguard; jump X; C:; $1; X:; unguard; normal; F:; $2; resume")
	case m.is(kids[1], api.NCatch):
		return m.fill(n, "try C -1; $0; unguard; jump E; C:; $1; E:")
	}
	return m.fill(n, "try -1 F; $0; unguard; normal; F:; $1; resume")
}

func (m *model) value(n int) []string {
	x := m.nodes[n]
	switch x.Kind {
	case api.NNumber:
		return []string{"const " + num.Text(x.Num)}
	case api.NString:
		return []string{"const " + str.Quote(x.Text)}
	case api.NTrue:
		return []string{"const true"}
	case api.NFalse:
		return []string{"const false"}
	case api.NNull:
		return []string{"const null"}
	case api.NThis:
		return []string{"this"}
	case api.NName:
		return m.named(n, "load")
	case api.NFunc:
		return []string{"func " + strconv.Itoa(m.numbers[n])}
	case api.NObject:
		return m.fill(n, "object"+m.kids(n, 0))
	case api.NPair:
		return m.fill(n, "dup; "+m.key(n)+"; $1; define 0")
	case api.NGetter:
		return m.fill(n, "dup; "+m.key(n)+"; $1; define 1")
	case api.NSetter:
		return m.fill(n, "dup; "+m.key(n)+"; $1; define 2")
	case api.NComputed:
		return m.fill(n, "$0; key")
	case api.NArray:
		return m.fill(n, m.kids(n, 0)+"; array "+strconv.Itoa(len(x.Kids)))
	case api.NMember, api.NIndex:
		return append(m.held(n), "op get")
	case api.NCall:
		return m.call(n)
	case api.NNew:
		return m.fill(n, m.kids(n, 0)+"; new "+strconv.Itoa(len(x.Kids)-1))
	case api.NUnary:
		return m.unary(n)
	case api.NBinary:
		return m.fill(n, "$0; $1; op "+x.Text)
	case api.NAnd:
		return m.fill(n, "$0; and L; $1; L:")
	case api.NOr:
		return m.fill(n, "$0; or L; $1; L:")
	case api.NCond:
		return m.fill(n, "$0; unless L; $1; jump M; L:; $2; M:")
	}
	return m.assign(n)
}

func (m *model) named(n int, op string) []string {
	s := m.slots[n]
	if s.Hops < 0 {
		return []string{"host " + m.nodes[n].Text}
	}
	return []string{op + " " + strconv.Itoa(s.Hops) + " " + strconv.Itoa(s.Index)}
}

// key is that of a pair.
func (m *model) key(n int) string {
	k := m.nodes[n].Kids[0]
	if m.is(k, api.NNumber) {
		return "const " + str.Quote(num.Text(m.nodes[k].Num))
	}
	return "$0"
}

// held is a member's object, and which one it is.
func (m *model) held(n int) []string {
	if m.is(n, api.NMember) {
		return append(m.fill(n, "$0"), "const "+str.Quote(m.nodes[n].Text))
	}
	return m.fill(n, "$0; $1")
}

func (m *model) call(n int) []string {
	args := append(m.fill(n, m.kids(n, 1)), "call "+strconv.Itoa(len(m.nodes[n].Kids)-1))
	callee := m.nodes[n].Kids[0]
	switch {
	case m.is(callee, api.NMember):
		return slices.Concat(m.fill(callee, "$0; dup"), []string{"const " + str.Quote(m.nodes[callee].Text), "op get", "swap"}, args)
	case m.is(callee, api.NIndex):
		return slices.Concat(m.fill(callee, "$0; dup; $1; op get; swap"), args)
	}
	return slices.Concat(m.fill(n, "$0; const undefined"), args)
}

func (m *model) unary(n int) []string {
	kid := m.nodes[n].Kids[0]
	switch s := m.nodes[n].Text; s {
	case "-":
		return m.fill(n, "$0; op neg")
	case "+":
		return m.fill(n, "$0; op pos")
	case "void":
		return m.fill(n, "$0; pop; const undefined")
	case "delete":
		if m.is(kid, api.NMember, api.NIndex) {
			return append(m.held(kid), "op delete")
		}
		return m.fill(n, "$0; pop; const true")
	default:
		return m.fill(n, "$0; op "+s)
	}
}

func (m *model) assign(n int) []string {
	target, sign := m.nodes[n].Kids[0], m.nodes[n].Text
	op := "op " + sign[:len(sign)-1]
	switch {
	case m.is(target, api.NName) && sign == "=":
		return append(m.fill(n, "$1"), m.named(target, "store")...)
	case m.is(target, api.NName):
		return slices.Concat(m.named(target, "load"), m.fill(n, "$1; "+op), m.named(target, "store"))
	case sign == "=":
		return append(m.held(target), m.fill(n, "$1; op set")...)
	}
	return append(m.held(target), m.fill(n, "key; dup2; op get; $1; "+op+"; op set")...)
}

// resolved writes items as listing does, with numbers for places, consts, the host's names and operations.
func resolved(items []string) string {
	places := map[string]string{}
	var consts, hosts, l []string
	for _, item := range items {
		if item[0] == '@' {
			places[strings.TrimSuffix(item, ":")] = strconv.Itoa(len(l))
			continue
		}
		l = append(l, item)
	}
	for i, item := range l {
		words := strings.Split(item, " ")
		rest := strings.Join(words[1:], " ")
		switch words[0] {
		case "const":
			l[i] = "const " + numbered(&consts, rest) + " " + rest
		case "host":
			l[i] = "host " + numbered(&hosts, rest) + " " + rest
		case "op":
			l[i] = "op " + strconv.Itoa(slices.Index(names, rest)) + " " + rest
		default:
			for k, s := range words {
				if s[0] == '@' {
					words[k] = places[s]
				}
			}
			l[i] = strings.Join(words, " ")
		}
	}
	return strings.Join(l, "; ") + ";"
}

// numbered is the place of a text in a list, at the end of which it is put, if it is not there.
func numbered(l *[]string, s string) string {
	if !slices.Contains(*l, s) {
		*l = append(*l, s)
	}
	return strconv.Itoa(slices.Index(*l, s))
}
