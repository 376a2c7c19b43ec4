package emit

import (
	"math"

	"bailiff/api"
	"bailiff/num"
)

// mostInstrs is how many instructions a code has at most.
const mostInstrs = 1 << 17

// may tells whether a code may be in a list of so many codes, but for what its instructions do to the stack. One without instructions may not: there is none to begin with.
func may(c api.Code, codes int) bool {
	if len(c.Instrs) == 0 || len(c.Instrs) > mostInstrs || !within(c.Params, api.MaxArgs+1) || !within(c.Slots, api.MaxNodes+1) {
		return false
	}
	for _, v := range c.Consts {
		if !constant(v) {
			return false
		}
	}
	for _, s := range c.Names {
		if len(s) > api.MaxString {
			return false
		}
	}
	for _, i := range c.Instrs {
		if !instruction(i, c, codes) {
			return false
		}
	}
	return true
}

// within tells whether a number is one from 0 on below a limit.
func within(n, limit int) bool { return 0 <= n && n < limit }

// constant tells whether a value is a const: beside what its Kind has it has nothing, not even a minus ahead of a nought.
func constant(v api.Value) bool {
	is := true
	switch v.Kind {
	case api.Undefined, api.Null:
	case api.Boolean:
		is = v.Num == 0 || v.Num == 1
		v.Num = 0
	case api.Number:
		is = num.May(v.Num)
		v.Num = 0
	case api.String:
		is = len(v.Str) <= api.MaxString
		v.Str = ""
	case api.Symbol:
		is = v.Ref >= 0
		v.Ref = 0
	default:
		is = false
	}
	return is && v == api.Value{Kind: v.Kind} && !math.Signbit(v.Num)
}

// instruction tells whether an instruction has an Op, and in A and B what that tells.
func instruction(i api.Instr, c api.Code, codes int) bool {
	r := told(i.Op)
	if r.name == "" {
		return false
	}
	if i.Op == opTry {
		return i.A == -1 && within(i.B, len(c.Instrs)) || i.B == -1 && within(i.A, len(c.Instrs))
	}
	return within(i.A, limit(r.a, c, codes)) && within(i.B, limit(r.b, c, codes))
}

// limit is how many numbers there are of what a row tells. Where it tells nothing that is the one number 0.
func limit(of uint8, c api.Code, codes int) int {
	switch of {
	case aConst:
		return len(c.Consts)
	case aName:
		return len(c.Names)
	case aCode:
		return codes
	case anOperation:
		return len(operations)
	case aPlace:
		return len(c.Instrs)
	case aSort:
		return setter + 1
	case aCount:
		return api.MaxNodes + 1
	case anArg:
		return api.MaxArgs + 1
	}
	return 1
}
