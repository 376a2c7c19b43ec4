package emit

import (
	"slices"

	"bailiff/api"
)

// state is what is known ahead of an instruction: how high the stack is, how many scopes are open, the guards, how many finallys are going on.
type state struct {
	height, scopes int
	guards         int // the number of the innermost one, with all those ahead of it; 0: there is none
	finallys       int
}

// guard is one, put where the state was as it tells: its guards are those ahead of it. Guards that are the same, with all ahead of them, have one number, so that states are compared without going through them.
type guard struct {
	op     uint8
	looped bool // it is a loop's, or one ahead of it is
	a, b   int
	state
}

// walker goes through a code's instructions, from the first one on, wherever they lead.
type walker struct {
	instrs  []api.Instr
	states  []state // a height of -1: one has not come there
	guards  []guard // by their numbers
	numbers map[guard]int
	ahead   []int // the places to which one has come, and from which one has not yet gone on
}

func newWalker(c api.Code) *walker {
	return &walker{
		instrs:  c.Instrs,
		states:  slices.Repeat([]state{{height: -1}}, len(c.Instrs)),
		guards:  make([]guard, 1),
		numbers: map[guard]int{},
	}
}

// walk tells whether the stack is safe.
func (w *walker) walk() bool {
	safe := w.come(0, state{})
	for safe && len(w.ahead) > 0 {
		last := len(w.ahead) - 1
		at := w.ahead[last]
		w.ahead = w.ahead[:last]
		safe = w.step(at)
	}
	return safe
}

// come comes to a place, and tells whether there is one, and the state the only one there.
func (w *walker) come(at int, s state) bool {
	if at == len(w.instrs) {
		return false
	}
	if w.states[at].height < 0 {
		w.states[at] = s
		w.ahead = append(w.ahead, at)
	}
	return w.states[at] == s
}

// step goes on from an instruction to all to which it leads, and tells whether it finds what it needs.
func (w *walker) step(at int) bool {
	i, s := w.instrs[at], w.states[at]
	n := takes(i)
	if s.height < n {
		return false
	}
	s.height += told(i.Op).puts - n
	switch i.Op {
	case opJump:
		return w.come(i.A, s)
	case opUnless:
		return w.come(i.A, s) && w.come(at+1, s)
	case opAnd, opOr:
		return w.come(i.A, w.states[at]) && w.come(at+1, s)
	case opNext:
		op := w.guards[s.guards].op
		return (op == opKeys || op == opItems) && w.come(i.A, w.states[at]) && w.come(at+1, s)
	case opReturn, opThrow, opEnd:
		return true
	case opBreak, opContinue:
		return w.guards[s.guards].looped
	case opTry, opLoop, opKeys, opItems:
		return w.guard(at, s)
	}
	return w.change(i.Op, &s) && w.come(at+1, s)
}

// change does to a state what an instruction does beside the stack, and tells whether it can.
func (w *walker) change(op uint8, s *state) bool {
	switch op {
	case opScope:
		s.scopes++
	case opLeave:
		s.scopes--
	case opUnguard:
		if s.guards == 0 {
			return false
		}
		s.guards = w.guards[s.guards].guards
	case opNormal:
		s.finallys++
	case opResume:
		s.finallys--
	}
	return s.scopes >= 0 && s.finallys >= 0
}

// guard puts a guard where the state is as it tells, and comes to its places and to the next instruction.
func (w *walker) guard(at int, s state) bool {
	i := w.instrs[at]
	g := guard{i.Op, i.Op != opTry || w.guards[s.guards].looped, i.A, i.B, s}
	inside := s
	inside.guards = w.number(g)
	if !w.come(at+1, inside) {
		return false
	}
	switch {
	case i.Op != opTry:
		return w.come(i.A, s) && w.come(i.B, inside)
	case i.B < 0:
		s.height++
		return w.come(i.A, s)
	}
	s.finallys++
	return w.come(i.B, s)
}

// number is a guard's, which it is given, if none that is the same has one.
func (w *walker) number(g guard) int {
	n, is := w.numbers[g]
	if !is {
		n = len(w.guards)
		w.guards = append(w.guards, g)
		w.numbers[g] = n
	}
	return n
}
