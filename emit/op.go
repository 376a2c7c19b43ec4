package emit

import "bailiff/api"

// The Ops.
const (
	opConst uint8 = iota + 1
	opPop
	opDup
	opDup2
	opSwap
	opLoad
	opStore
	opInit
	opHost
	opScope
	opLeave
	opFunc
	opOp
	opKey
	opJump
	opUnless
	opAnd
	opOr
	opObject
	opDefine
	opArray
	opCall
	opNew
	opThis
	opArg
	opOwn
	opReturn
	opThrow
	opTry
	opLoop
	opKeys
	opItems
	opNext
	opUnguard
	opNormal
	opResume
	opBreak
	opContinue
	opKeep
	opEnd
)

// What a row may tell in A and B.
const (
	nothing uint8 = iota
	aConst
	aName
	aCode
	anOperation
	aPlace
	aSort  // of what is defined
	aCount // of names, hops, what an array has; or an index
	anArg  // its number, or how many
)

// What is defined.
const (
	data = iota
	getter
	setter
)

// row is what is told of an Op: its name, what stands in A and in B, and what it takes off the stack and puts there on the way to the next instruction.
type row struct {
	name        string
	a, b        uint8
	takes, puts int
}

// told is an Op's row; one without a name, where there is none.
func told(op uint8) row {
	rows := [...]row{
		opConst:    {"const", aConst, nothing, 0, 1},
		opPop:      {"pop", nothing, nothing, 1, 0},
		opDup:      {"dup", nothing, nothing, 1, 2},
		opDup2:     {"dup2", nothing, nothing, 2, 4},
		opSwap:     {"swap", nothing, nothing, 2, 2},
		opLoad:     {"load", aCount, aCount, 0, 1},
		opStore:    {"store", aCount, aCount, 1, 1},
		opInit:     {"init", aCount, nothing, 1, 0},
		opHost:     {"host", aName, nothing, 0, 1},
		opScope:    {"scope", aCount, nothing, 0, 0},
		opLeave:    {"leave", nothing, nothing, 0, 0},
		opFunc:     {"func", aCode, nothing, 0, 1},
		opOp:       {"op", anOperation, nothing, 0, 1},
		opKey:      {"key", nothing, nothing, 1, 1},
		opJump:     {"jump", aPlace, nothing, 0, 0},
		opUnless:   {"unless", aPlace, nothing, 1, 0},
		opAnd:      {"and", aPlace, nothing, 1, 0},
		opOr:       {"or", aPlace, nothing, 1, 0},
		opObject:   {"object", nothing, nothing, 0, 1},
		opDefine:   {"define", aSort, nothing, 3, 0},
		opArray:    {"array", aCount, nothing, 0, 1},
		opCall:     {"call", anArg, nothing, 2, 1},
		opNew:      {"new", anArg, nothing, 1, 1},
		opThis:     {"this", nothing, nothing, 0, 1},
		opArg:      {"arg", anArg, aCount, 0, 0},
		opOwn:      {"own", aCount, nothing, 0, 0},
		opReturn:   {"return", nothing, nothing, 1, 0},
		opThrow:    {"throw", nothing, nothing, 1, 0},
		opTry:      {"try", aPlace, aPlace, 0, 0},
		opLoop:     {"loop", aPlace, aPlace, 0, 0},
		opKeys:     {"keys", aPlace, aPlace, 1, 0},
		opItems:    {"items", aPlace, aPlace, 1, 0},
		opNext:     {"next", aPlace, nothing, 0, 1},
		opUnguard:  {"unguard", nothing, nothing, 0, 0},
		opNormal:   {"normal", nothing, nothing, 0, 0},
		opResume:   {"resume", nothing, nothing, 0, 0},
		opBreak:    {"break", nothing, nothing, 0, 0},
		opContinue: {"continue", nothing, nothing, 0, 0},
		opKeep:     {"keep", nothing, nothing, 1, 0},
		opEnd:      {"end", nothing, nothing, 0, 0},
	}
	if int(op) >= len(rows) {
		return row{}
	}
	return rows[op]
}

// takes is how many values an instruction takes: what its row tells, and what hangs on its A.
func takes(i api.Instr) int {
	n := told(i.Op).takes
	switch i.Op {
	case opOp:
		n += many(operations[i.A])
	case opArray, opCall, opNew:
		n += i.A
	}
	return n
}

// operations are the names of op, by their numbers.
var operations = [...]string{
	"!", "!=", "!==", "%", "&", "*", "+", "-", "/", "<", "<<", "<=", "==", "===", ">", ">=", ">>", ">>>", "^",
	"delete", "get", "in", "instanceof", "keys", "length", "neg", "pos", "set", "typeof", "|", "~",
}

// operation is the number of a name of op; how many there are, if it is none.
func operation(name string) int {
	for i, s := range operations {
		if s == name {
			return i
		}
	}
	return len(operations)
}

// many is how many values an operation has.
func many(name string) int {
	switch name {
	case "!", "~", "neg", "pos", "typeof", "keys", "length":
		return 1
	case "set":
		return 3
	}
	return 2
}
