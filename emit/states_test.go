package emit_test

import (
	"fmt"
	"math"
	"strings"

	"bailiff/api"
	"bailiff/num"
)

// place is a state as the chapter tells it, its guards all told.
type place struct {
	height, scopes int
	guards         []put
	finallys       int
}

// put is a guard, and where it was put.
type put struct {
	kind                     string
	a, b                     int
	height, scopes, finallys int
}

func (p place) key() string { return fmt.Sprint(p) }

// high answers the chapter's words on one code of a list of so many: how high its stack becomes; -1: it may not be.
func high(c api.Code, codes int) int {
	if !told(c, codes) {
		return -1
	}
	type step struct {
		at int
		p  place
	}
	had := map[int]string{}
	most := 0
	work := []step{{0, place{}}}
	for len(work) > 0 {
		s := work[0]
		work = work[1:]
		if s.at >= len(c.Instrs) {
			return -1
		}
		if old, is := had[s.at]; is {
			if old != s.p.key() {
				return -1
			}
			continue
		}
		had[s.at] = s.p.key()
		most = max(most, s.p.height)
		next, ok := leads(c.Instrs[s.at], s.at, s.p)
		if !ok {
			return -1
		}
		for at, p := range next {
			for _, q := range p {
				work = append(work, step{at, q})
			}
		}
	}
	return most
}

// told tells whether a code's numbers are what they may be.
func told(c api.Code, codes int) bool {
	n := len(c.Instrs)
	if n < 1 || n > 131072 || c.Params < 0 || c.Params > 64 || c.Slots < 0 || c.Slots > 16384 {
		return false
	}
	for _, v := range c.Consts {
		if !aConst(v) {
			return false
		}
	}
	for _, s := range c.Names {
		if len(s) > 4096 {
			return false
		}
	}
	for _, i := range c.Instrs {
		if i.Op < 1 || i.Op > 40 {
			return false
		}
		mostA, mostB := 0, 0
		switch called(i.Op) {
		case "const":
			mostA = len(c.Consts) - 1
		case "host":
			mostA = len(c.Names) - 1
		case "load", "store":
			mostA, mostB = 16384, 16384
		case "init", "own", "scope", "array":
			mostA = 16384
		case "arg":
			mostA, mostB = 64, 16384
		case "call", "new":
			mostA = 64
		case "func":
			mostA = codes - 1
		case "op":
			mostA = 30
		case "define":
			mostA = 2
		case "jump", "unless", "and", "or", "next":
			mostA = n - 1
		case "loop", "keys", "items":
			mostA, mostB = n-1, n-1
		case "try":
			if (i.A == -1) == (i.B == -1) || i.A < -1 || i.B < -1 || i.A >= n || i.B >= n {
				return false
			}
			continue
		}
		if i.A < 0 || i.A > mostA || i.B < 0 || i.B > mostB {
			return false
		}
	}
	return true
}

func aConst(v api.Value) bool {
	if v.Kind != api.Boolean && v.Kind != api.Number && (v.Num != 0 || math.Signbit(v.Num)) || v.Kind != api.String && v.Str != "" || v.Kind != api.Symbol && v.Ref != 0 {
		return false
	}
	switch v.Kind {
	case api.Undefined, api.Null:
		return true
	case api.Boolean:
		return v.Num == 0 || v.Num == 1
	case api.Number:
		return num.May(v.Num)
	case api.String:
		return len(v.Str) <= 4096
	case api.Symbol:
		return v.Ref >= 0
	}
	return false
}

// needs is how many values an instruction takes, and how many it puts, where the next one follows.
func needs(i api.Instr) (int, int) {
	switch s := called(i.Op); s {
	case "const", "load", "host", "func", "object", "this":
		return 0, 1
	case "pop", "init", "unless", "and", "or", "return", "throw", "keys", "items", "keep":
		return 1, 0
	case "dup":
		return 1, 2
	case "dup2":
		return 2, 4
	case "swap":
		return 2, 2
	case "store", "key":
		return 1, 1
	case "op":
		switch names[i.A] {
		case "~", "neg", "pos", "!", "typeof", "keys", "length":
			return 1, 1
		case "set":
			return 3, 1
		}
		return 2, 1
	case "define":
		return 3, 0
	case "array":
		return i.A, 1
	case "call":
		return i.A + 2, 1
	case "new":
		return i.A + 1, 1
	case "next":
		return 0, 1
	}
	return 0, 0
}

// leads are the places to which an instruction leads, with the states there; false, where it does not find what it needs.
func leads(i api.Instr, at int, p place) (map[int][]place, bool) {
	name := called(i.Op)
	takes, puts := needs(i)
	if p.height < takes {
		return nil, false
	}
	behind := p
	behind.height += puts - takes
	last := len(p.guards) - 1
	switch name {
	case "jump":
		return map[int][]place{i.A: {behind}}, true
	case "return", "throw", "end":
		return nil, true
	case "break", "continue":
		for _, g := range p.guards {
			if g.kind != "try" {
				return nil, true
			}
		}
		return nil, false
	case "unless":
		return both(i.A, behind, at+1, behind), true
	case "and", "or":
		return both(i.A, p, at+1, behind), true
	case "next":
		ok := last >= 0 && (p.guards[last].kind == "keys" || p.guards[last].kind == "items")
		return both(i.A, p, at+1, behind), ok
	case "try", "loop", "keys", "items":
		return guarded(name, i, at, behind), true
	case "scope":
		behind.scopes++
	case "leave":
		behind.scopes--
	case "unguard":
		if last < 0 {
			return nil, false
		}
		behind.guards = p.guards[:last:last]
	case "normal":
		behind.finallys++
	case "resume":
		behind.finallys--
	}
	return map[int][]place{at + 1: {behind}}, behind.scopes >= 0 && behind.finallys >= 0
}

func both(a int, p place, b int, q place) map[int][]place {
	m := map[int][]place{a: {p}}
	m[b] = append(m[b], q)
	return m
}

func guarded(name string, i api.Instr, at int, p place) map[int][]place {
	in := p
	in.guards = append(p.guards[:len(p.guards):len(p.guards)], put{name, i.A, i.B, p.height, p.scopes, p.finallys})
	m := map[int][]place{at + 1: {in}}
	switch {
	case name != "try":
		m[i.A] = append(m[i.A], p)
		m[i.B] = append(m[i.B], in)
	case i.B == -1:
		p.height++
		m[i.A] = append(m[i.A], p)
	default:
		p.finallys++
		m[i.B] = append(m[i.B], p)
	}
	return m
}

// written is a code as code reads it.
func written(c api.Code) string {
	var l []string
	for _, i := range c.Instrs {
		l = append(l, fmt.Sprint(called(i.Op), " ", i.A, " ", i.B))
	}
	return strings.Join(l, "; ")
}
