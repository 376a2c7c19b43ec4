package coerce

import (
	"bailiff/api"
	"bailiff/num"
	"bailiff/str"
	"bailiff/value"
)

// A rule is what a kind does: by the primitives that there are so far it tells its next move.
type rule interface {
	after(told []api.Value) move
}

// A move is the end, if out is one; else a value whose primitive by a hint is needed.
type move struct {
	of   api.Value
	hint uint8
	out  api.Out
}

// need is a move that is no end.
func need(v api.Value, hint uint8) move { return move{of: v, hint: hint} }

// tell is the end: what comes of it, or the error that stood in the way.
func tell(v api.Value, e api.Errno) move {
	if e != api.OK {
		return move{out: failed(e)}
	}
	return move{out: api.Out{Kind: api.Done, Value: v}}
}

// ruleOf is a kind's rule; nil, if there is no such kind.
func ruleOf(kind, hint uint8, v, w api.Value) rule {
	switch kind {
	case Prim:
		return toPrim{v, hint}
	case Number:
		return toNumber{v}
	case Text:
		return toText{v}
	case Key:
		return toKey{v}
	case Like:
		return isLike{v, w}
	case Less:
		return isLess{v, w}
	case Add:
		return sum{v, w}
	}
	return nil
}

type toPrim struct {
	v    api.Value
	hint uint8
}

func (r toPrim) after(told []api.Value) move {
	if len(told) == 0 {
		return need(r.v, r.hint)
	}
	return tell(told[0], api.OK)
}

type toNumber struct{ v api.Value }

func (r toNumber) after(told []api.Value) move {
	if len(told) == 0 {
		return need(r.v, byNumber)
	}
	x, e := number(told[0])
	return tell(value.Num(x), e)
}

type toText struct{ v api.Value }

func (r toText) after(told []api.Value) move {
	if len(told) == 0 {
		return need(r.v, byString)
	}
	s, e := text(told[0])
	return tell(value.Str(s), e)
}

type toKey struct{ v api.Value }

func (r toKey) after(told []api.Value) move {
	switch {
	case len(told) == 0:
		return need(r.v, byString)
	case told[0].Kind == api.Symbol:
		return tell(told[0], api.OK)
	}
	s, e := text(told[0])
	return tell(value.Str(s), e)
}

type isLike struct{ v, w api.Value }

func (r isLike) after(told []api.Value) move {
	switch {
	case value.IsObject(r.v) && value.IsObject(r.w):
		return tell(value.Bool(value.Same(r.v, r.w)), api.OK)
	case value.IsObject(r.w): // == is the same either way round
		return isLike{r.w, r.v}.after(told)
	case value.IsObject(r.v) && void(r.w):
		return tell(value.Bool(false), api.OK)
	case len(told) == 0:
		return need(r.v, noHint)
	}
	is, e := value.Plain(told[0], r.w)
	return tell(value.Bool(is), e)
}

type isLess [2]api.Value

func (r isLess) after(told []api.Value) move {
	if len(told) < len(r) {
		return need(r[len(told)], byNumber)
	}
	v, w := told[0], told[1]
	if v.Kind == api.String && w.Kind == api.String {
		return tell(value.Bool(str.Less(v.Str, w.Str)), api.OK)
	}
	x, y, e := numbers(v, w)
	return tell(lesser(num.Less(x, y)), e)
}

// lesser is what num.Less tells as a value.
func lesser(n int) api.Value {
	if n < 0 {
		return api.Value{Kind: api.Undefined}
	}
	return value.Bool(n == 1)
}

type sum [2]api.Value

func (r sum) after(told []api.Value) move {
	if len(told) < len(r) {
		return need(r[len(told)], noHint)
	}
	v, w := told[0], told[1]
	if v.Kind == api.String || w.Kind == api.String {
		s, e := joined(v, w)
		return tell(value.Str(s), e)
	}
	x, y, e := numbers(v, w)
	if e == api.OK {
		x, e = num.Add(x, y)
	}
	return tell(value.Num(x), e)
}
