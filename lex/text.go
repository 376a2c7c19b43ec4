package lex

import (
	"strings"

	"bailiff/api"
	"bailiff/num"
	"bailiff/str"
)

// Text writes tokens with a blank between. All of them are looked at ahead of the first being written, since one that may not be comes ahead of a text that is too long.
func Text(l []api.Token) (string, api.Errno) {
	if len(l) > api.MaxTokens+1 {
		return "", api.ErrMany
	}
	if !may(l) {
		return "", api.ErrSyntax
	}
	var out strings.Builder
	for i, t := range l[:len(l)-1] {
		if i > 0 {
			out.WriteByte(' ')
		}
		out.WriteString(written(t))
		if out.Len() > api.MaxText {
			return "", api.ErrBig
		}
	}
	return out.String(), api.OK
}

// may tells whether tokens may be.
func may(l []api.Token) bool {
	last := len(l) - 1
	for i, t := range l {
		if !told(t) || (t.Kind == api.TokEnd) != (i == last) {
			return false
		}
	}
	return last >= 0
}

// told tells whether a token is, but for its place, one of some text.
func told(t api.Token) bool {
	switch t.Kind {
	case api.TokEnd:
		return t.Text == "" && t.Num == 0
	case api.TokNumber:
		return t.Text == "" && num.May(t.Num) && t.Num >= 0
	case api.TokString:
		return len(t.Text) <= api.MaxString && t.Num == 0
	case api.TokName, api.TokWord, api.TokSign:
		return t.Num == 0 && alone(t)
	}
	return false
}

// alone tells whether a token is what its Text is read as.
func alone(t api.Token) bool {
	if t.Text == "" {
		return false
	}
	read, wide, _ := piece(t.Text)
	return read.Kind == t.Kind && wide == len(t.Text)
}

// written is a token as a text has it.
func written(t api.Token) string {
	switch t.Kind {
	case api.TokNumber:
		return num.Text(t.Num)
	case api.TokString:
		return str.Quote(t.Text)
	}
	return t.Text
}
