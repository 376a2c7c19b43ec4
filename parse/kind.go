package parse

import (
	"math"
	"slices"

	"bailiff/api"
)

// Kind is a kind's name; the empty text, where there is none.
func Kind(k uint8) string {
	names := [...]string{
		api.NScript: "script", api.NBlock: "block", api.NLet: "let", api.NConst: "const", api.NFunction: "function", api.NExpr: "expr",
		api.NIf: "if", api.NWhile: "while", api.NForIn: "forin", api.NForOf: "forof", api.NReturn: "return", api.NThrow: "throw",
		api.NBreak: "break", api.NContinue: "continue", api.NEmpty: "empty", api.NTry: "try", api.NCatch: "catch", api.NFinally: "finally",
		api.NNumber: "number", api.NString: "string", api.NTrue: "true", api.NFalse: "false", api.NNull: "null", api.NThis: "this",
		api.NName: "name", api.NFunc: "func", api.NObject: "object", api.NPair: "pair", api.NGetter: "getter", api.NSetter: "setter",
		api.NComputed: "computed", api.NArray: "array", api.NMember: "member", api.NIndex: "index", api.NCall: "call", api.NNew: "new",
		api.NUnary: "unary", api.NBinary: "binary", api.NAnd: "and", api.NOr: "or", api.NCond: "cond", api.NAssign: "assign",
	}
	if int(k) < len(names) {
		return names[k]
	}
	return ""
}

// Same tells whether any two trees have the same nodes, but for their places.
func Same(a, b api.Tree) bool { return slices.EqualFunc(a.Nodes, b.Nodes, alike) }

func alike(x, y api.Node) bool {
	num := x.Num == y.Num || math.IsNaN(x.Num) && math.IsNaN(y.Num)
	return num && x.Kind == y.Kind && x.Text == y.Text && slices.Equal(x.Kids, y.Kids)
}

// built tells whether a tree's nodes are numbered as a tree's are, each as its kind's row has it.
func built(t api.Tree) bool {
	next := 0
	var walk func(int) bool
	walk = func(n int) bool {
		if n != next || n == len(t.Nodes) || !rowed(t.Nodes[n]) {
			return false
		}
		next++
		for _, k := range t.Nodes[n].Kids {
			if !walk(k) {
				return false
			}
		}
		return true
	}
	return walk(0) && next == len(t.Nodes) && t.Nodes[0].Kind == api.NScript
}

// rowed tells whether a node has as many kids, and a Text or none, as its kind's row has. What kids they are is not its matter.
func rowed(x api.Node) bool {
	least, most := kids(x.Kind)
	if len(x.Kids) < least || len(x.Kids) > most {
		return false
	}
	switch x.Kind {
	case api.NString, api.NFunc:
		return true
	case api.NLet, api.NConst, api.NFunction, api.NCatch, api.NName, api.NMember, api.NUnary, api.NBinary, api.NAssign:
		return x.Text != ""
	}
	return x.Text == ""
}

// kids are how many kids a node of a kind has, at least and at most. Of what is no kind, no number is enough.
func kids(kind uint8) (least, most int) {
	switch kind {
	case api.NScript, api.NBlock, api.NObject, api.NArray:
		return 0, api.MaxNodes
	case api.NFunction, api.NFunc, api.NCall, api.NNew:
		return 1, api.MaxNodes
	case api.NBreak, api.NContinue, api.NEmpty, api.NNumber, api.NString, api.NTrue, api.NFalse, api.NNull, api.NThis, api.NName:
		return 0, 0
	case api.NLet, api.NConst, api.NReturn:
		return 0, 1
	case api.NExpr, api.NThrow, api.NCatch, api.NFinally, api.NComputed, api.NMember, api.NUnary:
		return 1, 1
	case api.NWhile, api.NPair, api.NGetter, api.NSetter, api.NIndex, api.NBinary, api.NAnd, api.NOr, api.NAssign:
		return 2, 2
	case api.NIf, api.NTry:
		return 2, 3
	case api.NForIn, api.NForOf, api.NCond:
		return 3, 3
	}
	return 0, -1
}
