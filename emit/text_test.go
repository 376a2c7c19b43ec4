package emit_test

import (
	"math"
	"strconv"
	"strings"
	"testing"

	"bailiff/api"
	"bailiff/emit"
	"bailiff/parse"
	"bailiff/scope"
)

// text holds the text of codes against lines.
func text(t *testing.T, l []api.Code, want ...string) {
	t.Helper()
	s, e := emit.Text(l)
	if e != api.OK || s != strings.Join(want, "\n")+"\n" {
		t.Errorf("%d\n%s", int(e), s)
	}
}

// P6.3

func TestText(t *testing.T) {
	text(t, coded(t, "a + 1;"), "code 0 0 0", "0 scope 0", "1 host 0 a", "2 const 0 1", "3 op 6 +", "4 keep", "5 end")
	text(t, coded(t, "function f(a, b) { let c = 'd'; } while (f) continue;"),
		"code 0 0 1", "0 scope 1", "1 func 1", "2 init 0", "3 loop 9 4", "4 load 0 0", "5 unless 8", "6 continue", "7 jump 4", "8 unguard", "9 end",
		"code 1 2 3", "0 scope 3", "1 arg 0 0", "2 arg 1 1", `3 const 0 "d"`, "4 init 2", "5 const 1 undefined", "6 return")
	text(t, []api.Code{{Instrs: code("end").Instrs, Params: 64, Slots: 16384}, code("func 1; return")}, "code 0 64 16384", "0 end", "code 1 0 0", "0 func 1", "1 return")
}

// Each row, one instruction behind an end: of A and B just what the row tells.
func TestRows(t *testing.T) {
	lines := strings.Split("const 0 undefined|pop|dup|dup2|swap|load 3 4|store 3 4|init 5|host 1 b|scope 6|leave|func 0|op 27 set|key|jump 1|unless 1|and 1|or 1|object|define 2|array 7|call 8|new 9|this|arg 10 11|own 12|return|throw|try 1 -1|loop 0 1|keys 1 0|items 0 0|next 1|unguard|normal|resume|break|continue|keep|end", "|")
	if len(lines) != 40 {
		t.Fatal(len(lines))
	}
	for o, line := range append(lines, "try -1 1", "const 1 null", "const 2 true", "const 3 7", `const 4 "s"`, "const 5 symbol 2", "host 0 a", "host 2 ") {
		words := strings.Fields(line)
		if len(words) > 2 && (words[0] == "const" || words[0] == "host" || words[0] == "op") {
			words = words[:2]
		}
		c := code("end; " + strings.Join(words, " "))
		if o < 40 && c.Instrs[1].Op != uint8(o+1) {
			t.Error(line, c.Instrs[1])
		}
		text(t, []api.Code{c}, "code 0 0 0", "0 end", "1 "+line)
	}
	for n, name := range names {
		text(t, []api.Code{code("end; op " + strconv.Itoa(n))}, "code 0 0 0", "0 end", "1 op "+strconv.Itoa(n)+" "+name)
	}
	text(t, []api.Code{code("end; func 1"), code("end")}, "code 0 0 0", "0 end", "1 func 1", "code 1 0 0", "0 end")
}

func TestConstTexts(t *testing.T) {
	c := code("end; const 0; const 1; const 2; const 3; const 4; const 5; const 6; const 7; const 8; const 9; host 0")
	c.Consts = []api.Value{
		{Kind: api.Boolean}, {Kind: api.Boolean, Num: 1}, {Kind: api.Number}, {Kind: api.Number, Num: -api.MaxSafe}, {Kind: api.Number, Num: math.NaN()},
		{Kind: api.String}, {Kind: api.String, Str: "a \"\\\n\xff"}, {Kind: api.String, Str: "undefined"}, {Kind: api.Symbol}, {Kind: api.Symbol, Ref: math.MaxInt},
	}
	c.Names = []string{"a \n\"\xff"}
	text(t, []api.Code{c}, "code 0 0 0", "0 end", "1 const 0 false", "2 const 1 true", "3 const 2 0", "4 const 3 -9007199254740991", "5 const 4 NaN",
		`6 const 5 ""`, `7 const 6 "a \"\\\n\xff"`, `8 const 7 "undefined"`, "9 const 8 symbol 0", "10 const 9 symbol "+strconv.Itoa(math.MaxInt), "11 host 0 a \n\"\xff")
}

// wide is a code whose text, as the first one's of a list, has so many bytes.
func wide(bytes int) api.Code {
	c := api.Code{Instrs: code("end").Instrs, Names: []string{times("a", api.MaxString)}}
	length := len("code 0 0 0\n0 end\n")
	for {
		at := len(c.Instrs)
		room := bytes - length - len(strconv.Itoa(at)+" host 0 \n")
		if room <= api.MaxString+20 {
			// two more: together they fill what is left, and neither is too long
			first := room / 2
			c.Names = append(c.Names, times("b", first), times("c", room-first-len(strconv.Itoa(at+1)+" host 0 \n")))
			c.Instrs = append(c.Instrs, api.Instr{Op: op("host"), A: 1}, api.Instr{Op: op("host"), A: 2})
			return c
		}
		c.Instrs = append(c.Instrs, api.Instr{Op: op("host")})
		length += len(strconv.Itoa(at)+" host 0 \n") + api.MaxString
	}
}

func TestTextLimit(t *testing.T) {
	for _, c := range []struct {
		bytes, more int // more bytes come with further codes
		want        api.Errno
	}{
		{api.MaxAnswer - 1, 0, api.OK}, {api.MaxAnswer, 0, api.OK}, {api.MaxAnswer + 1, 0, api.ErrMany}, {api.MaxAnswer + 5000, 0, api.ErrMany},
		{api.MaxAnswer - 17, 17, api.OK}, {api.MaxAnswer - 16, 17, api.ErrMany}, {api.MaxAnswer, 17, api.ErrMany}, {9000, 17, api.OK},
	} {
		l := []api.Code{wide(c.bytes)}
		if c.more > 0 {
			l = append(l, code("end"))
		}
		s, e := emit.Text(l)
		if e != c.want || e == api.OK && len(s) != c.bytes+c.more || e != api.OK && s != "" {
			t.Error(c, int(e), len(s))
		}
		// That a code may not be comes first, wherever it stands.
		if s, e := emit.Text(append(l, code("pop; end"))); s != "" || e != api.ErrCode {
			t.Error(c, int(e), len(s))
		}
	}
	// A great many bytes are not written ahead of being refused.
	c := code("end")
	c.Consts[0] = api.Value{Kind: api.String, Str: times("\x00", api.MaxString)}
	c.Instrs = append(c.Instrs, make([]api.Instr, 1<<17-1)...)
	for i := range c.Instrs[1:] {
		c.Instrs[i+1] = api.Instr{Op: op("const")}
	}
	if s, e := emit.Text([]api.Code{c, c}); s != "" || e != api.ErrMany {
		t.Error(int(e), len(s))
	}
}

// The texts of made codes, against the listings.
func TestMadeCodes(t *testing.T) {
	for seed := range uint64(200) {
		tree, _, e := parse.Parse(newMade(seed, 100).script())
		if e != api.OK {
			t.Fatal(seed)
		}
		if _, e := scope.Check(tree); e != api.OK {
			continue
		}
		l, _ := emit.Codes(tree)
		var lines []string
		for n, c := range l {
			lines = append(lines, "code "+strconv.Itoa(n)+" "+strconv.Itoa(c.Params)+" "+strconv.Itoa(c.Slots))
			for at, i := range c.Instrs {
				lines = append(lines, strconv.Itoa(at)+" "+listed(i, c))
			}
		}
		text(t, l, lines...)
	}
}
