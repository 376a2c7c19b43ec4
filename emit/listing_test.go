package emit_test

import (
	"strconv"
	"strings"
	"testing"

	"bailiff/api"
	"bailiff/emit"
	"bailiff/num"
	"bailiff/parse"
	"bailiff/str"
)

// rows are the Ops of the chapter's table from 1 on, each with what its row tells in A and B.
var rows = strings.Split("const A|pop|dup|dup2|swap|load A B|store A B|init A|host A|scope A|leave|func A|op A|key|jump A|unless A|and A|or A|object|define A|array A|call A|new A|this|arg A B|own A|return|throw|try A B|loop A B|keys A B|items A B|next A|unguard|normal|resume|break|continue|keep|end", "|")

// names are op's Names.
var names = strings.Fields("! != !== % & * + - / < << <= == === > >= >> >>> ^ delete get in instanceof keys length neg pos set typeof | ~")

// op is the Op of a name.
func op(name string) uint8 {
	for i := range rows {
		if called(uint8(i+1)) == name {
			return uint8(i + 1)
		}
	}
	panic(name)
}

// called is the name of an Op.
func called(op uint8) string {
	s, _, _ := strings.Cut(rows[op-1], " ")
	return s
}

// code makes a code of instructions as they are listed, ; between, with six consts and three names.
func code(s string) api.Code {
	c := api.Code{
		Consts: []api.Value{{}, {Kind: api.Null}, {Kind: api.Boolean, Num: 1}, {Kind: api.Number, Num: 7}, {Kind: api.String, Str: "s"}, {Kind: api.Symbol, Ref: 2}},
		Names:  []string{"a", "b", ""},
	}
	for _, line := range strings.Split(s, ";") {
		words := strings.Fields(line)
		if len(words) == 0 {
			continue
		}
		i := api.Instr{Op: op(words[0])}
		if len(words) > 1 {
			i.A = number(words[1])
		}
		if len(words) > 2 {
			i.B = number(words[2])
		}
		c.Instrs = append(c.Instrs, i)
	}
	return c
}

func number(s string) int {
	n, e := strconv.Atoi(s)
	if e != nil {
		panic(s)
	}
	return n
}

func constText(v api.Value) string {
	switch v {
	case api.Value{}:
		return "undefined"
	case api.Value{Kind: api.Null}:
		return "null"
	case api.Value{Kind: api.Boolean}:
		return "false"
	case api.Value{Kind: api.Boolean, Num: 1}:
		return "true"
	case api.Value{Kind: api.String, Str: v.Str}:
		return str.Quote(v.Str)
	case api.Value{Kind: api.Number, Num: v.Num}:
		return num.Text(v.Num)
	}
	return "no const of a tree"
}

// listed writes an instruction: its name, what its row tells of A and B, and what it names; of what its row does not tell, what is not 0.
func listed(i api.Instr, c api.Code) string {
	row := strings.Fields(rows[i.Op-1])
	s := row[0]
	if len(row) > 1 || i.A != 0 {
		s += " " + strconv.Itoa(i.A)
	}
	if len(row) > 2 || i.B != 0 {
		s += " " + strconv.Itoa(i.B)
	}
	switch row[0] {
	case "const":
		s += " " + constText(c.Consts[i.A])
	case "host":
		s += " " + c.Names[i.A]
	case "op":
		s += " " + names[i.A]
	}
	return s
}

// listing writes codes, each from its Params and Slots on.
func listing(l []api.Code) []string {
	var all []string
	for _, c := range l {
		s := strconv.Itoa(c.Params) + " " + strconv.Itoa(c.Slots) + ":"
		for _, i := range c.Instrs {
			s += " " + listed(i, c) + ";"
		}
		all = append(all, s)
	}
	return all
}

func times(s string, n int) string { return strings.Repeat(s, n) }

func parsed(t *testing.T, s string) api.Tree {
	t.Helper()
	tree, at, e := parse.Parse(s)
	if e != api.OK {
		t.Fatalf("%.60q: %d at %d", s, int(e), at)
	}
	return tree
}

func coded(t *testing.T, s string) []api.Code {
	t.Helper()
	l, e := emit.Codes(parsed(t, s))
	if e != api.OK {
		t.Fatalf("%.60q: %d", s, int(e))
	}
	return l
}

// codes holds the codes of a text against their listings.
func codes(t *testing.T, s string, want ...string) {
	t.Helper()
	got := listing(coded(t, s))
	if strings.Join(got, "\n") != strings.Join(want, "\n") {
		t.Errorf("%.60q:\n%s", s, strings.Join(got, "\n"))
	}
}

// script holds the script's code of a text without names of its own against its listing between scope and end.
func script(t *testing.T, s, want string) {
	t.Helper()
	if want != "" {
		want += " "
	}
	if got := listing(coded(t, s))[0]; got != "0 0: scope 0; "+want+"end;" {
		t.Errorf("%.60q:\n%s", s, got)
	}
}
