package emit

import (
	"strconv"
	"strings"

	"bailiff/api"
	"bailiff/num"
	"bailiff/str"
)

// Text writes codes, an instruction a line.
func Text(l []api.Code) (string, api.Errno) {
	if e := Check(l); e != api.OK {
		return "", e
	}
	var out strings.Builder
	for n, c := range l {
		fits := line(&out, "code", strconv.Itoa(n), strconv.Itoa(c.Params), strconv.Itoa(c.Slots))
		for at, i := range c.Instrs {
			fits = fits && line(&out, words(at, i, c)...)
		}
		if !fits {
			return "", api.ErrMany
		}
	}
	return out.String(), api.OK
}

// line writes words with blanks between, and tells whether the text is not too long by then.
func line(out *strings.Builder, l ...string) bool {
	for i, s := range l {
		if i > 0 {
			out.WriteByte(' ')
		}
		out.WriteString(s)
	}
	out.WriteByte('\n')
	return out.Len() <= api.MaxAnswer
}

// words are an instruction's, at a place of a code.
func words(at int, i api.Instr, c api.Code) []string {
	r := told(i.Op)
	l := []string{strconv.Itoa(at), r.name}
	if r.a != nothing {
		l = append(l, strconv.Itoa(i.A))
	}
	if r.b != nothing {
		l = append(l, strconv.Itoa(i.B))
	}
	switch i.Op {
	case opConst:
		l = append(l, constText(c.Consts[i.A]))
	case opHost:
		l = append(l, c.Names[i.A])
	case opOp:
		l = append(l, operations[i.A])
	}
	return l
}

// constText is a const's text. No two that are not the same have one text.
func constText(v api.Value) string {
	switch v.Kind {
	case api.Undefined:
		return "undefined"
	case api.Null:
		return "null"
	case api.Boolean:
		if v.Num == 0 {
			return "false"
		}
		return "true"
	case api.Number:
		return num.Text(v.Num)
	case api.String:
		return str.Quote(v.Str)
	}
	return "symbol " + strconv.Itoa(v.Ref)
}
