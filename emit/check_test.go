package emit_test

import (
	"math"
	"math/rand/v2"
	"strconv"
	"strings"
	"testing"

	"bailiff/api"
	"bailiff/emit"
	"bailiff/parse"
	"bailiff/scope"
)

// may holds what Check, High and Text tell of a code against how high its stack becomes; -1: it may not be.
func may(t *testing.T, c api.Code, want int) {
	t.Helper()
	e, wantError := emit.Check([]api.Code{c}), api.OK
	if want < 0 {
		wantError = api.ErrCode
	}
	if e != wantError {
		t.Errorf("%.200s: Check %d", shown(c), int(e))
	}
	if n, e := emit.High(c); n != max(want, 0) || e != wantError {
		t.Errorf("%.200s: High %d %d, not %d", shown(c), n, int(e), want)
	}
	if s, e := emit.Text([]api.Code{c}); (e == api.ErrCode) != (want < 0) || want < 0 && s != "" {
		t.Errorf("%.200s: Text %d %q", shown(c), int(e), s)
	}
}

func shown(c api.Code) string {
	for _, i := range c.Instrs {
		if i.Op < 1 || i.Op > 40 {
			return "with the Op " + strconv.Itoa(int(i.Op))
		}
	}
	return written(c)
}

func well(t *testing.T, want int, l ...string) {
	t.Helper()
	for _, s := range l {
		may(t, code(s), want)
	}
}

func wrong(t *testing.T, l ...string) {
	t.Helper()
	for _, s := range l {
		may(t, code(s), -1)
	}
}

// P6.2

func TestOps(t *testing.T) {
	for o := range 256 {
		c := code("const; const; const; end; end")
		c.Instrs[3] = api.Instr{Op: uint8(o)}
		want := 3
		switch {
		case o == 0 || o > 40:
			want = -1
		case strings.Contains(" leave try next unguard resume break continue ", " "+called(uint8(o))+" "):
			want = -1 // it finds nothing, or tells neither of both
		case strings.Contains(" jump loop keys items ", " "+called(uint8(o))+" "):
			want = -1 // it comes back with another state
		case called(uint8(o)) == "unless" || called(uint8(o)) == "and" || called(uint8(o)) == "or":
			want = -1
		case called(uint8(o)) == "dup2":
			want = 5
		case strings.Contains(" const dup load host func object this array ", " "+called(uint8(o))+" "):
			want = 4
		}
		may(t, c, want)
		if o != 0 && o <= 40 && want >= 0 && len(strings.Fields(rows[o-1])) == 1 {
			for _, i := range []api.Instr{{Op: uint8(o), A: 1}, {Op: uint8(o), A: -1}, {Op: uint8(o), B: 1}, {Op: uint8(o), B: -1}} {
				c.Instrs[3] = i
				may(t, c, -1)
			}
		}
	}
}

// What stands in A and B is looked at even where one never comes.
func TestOperands(t *testing.T) {
	const far = "16384"
	well(t, 0, "end; const 0", "end; const 5", "end; host 0", "end; host 2", "end; load 0 0", "end; load "+far+" "+far, "end; store "+far+" "+far,
		"end; init "+far, "end; scope "+far, "end; array "+far, "end; own "+far, "end; arg 64 "+far, "end; call 64", "end; new 64", "end; func 0", "end; op 30", "end; define 2",
		"end; jump 1", "end; unless 1", "end; and 1", "end; or 1", "end; next 1", "end; loop 1 1", "end; keys 0 1", "end; items 1 0",
		"end; try -1 0", "end; try 0 -1", "end; try 1 -1", "end; try -1 1", "end; resume", "end; leave", "end; break", "end; pop")
	const more = "16385"
	wrong(t, "end; const 6", "end; const -1", "end; const 0 1", "end; host 3", "end; host -1", "end; host 0 1",
		"end; load "+more+" 0", "end; load 0 "+more, "end; load -1 0", "end; load 0 -1", "end; store "+more+" 0", "end; store 0 "+more, "end; store -1 0", "end; store 0 -1",
		"end; init "+more, "end; init -1", "end; init 0 1", "end; scope "+more, "end; scope -1", "end; scope 0 1", "end; array "+more, "end; array -1", "end; array 0 1",
		"end; own "+more, "end; own -1", "end; own 0 1", "end; arg 65 0", "end; arg -1 0", "end; arg 0 "+more, "end; arg 0 -1",
		"end; call 65", "end; call -1", "end; call 0 1", "end; new 65", "end; new -1", "end; new 0 1", "end; op 31", "end; op -1", "end; op 0 1",
		"end; define 3", "end; define -1", "end; define 0 1", "end; func -1", "end; func 0 1",
		"end; jump 2", "end; jump -1", "end; jump 0 1", "end; unless 2", "end; unless -1", "end; unless 0 1", "end; and 2", "end; and -1", "end; and 0 1",
		"end; or 2", "end; or -1", "end; or 0 1", "end; next 2", "end; next -1", "end; next 0 1",
		"end; try 0 0", "end; try 1 1", "end; try -1 -1", "end; try -2 0", "end; try 0 -2", "end; try -1 2", "end; try 2 -1", "end; try -1 -2", "end; try -2 -1")
	for _, s := range []string{"loop", "keys", "items"} {
		wrong(t, "end; "+s+" 2 0", "end; "+s+" 0 2", "end; "+s+" -1 0", "end; "+s+" 0 -1", "end; "+s+" -1 -1")
	}
	for o := range rows {
		for _, n := range []int{math.MaxInt, math.MinInt} {
			c := code("end; end")
			c.Instrs[1] = api.Instr{Op: uint8(o + 1), A: n}
			may(t, c, -1)
			c.Instrs[1] = api.Instr{Op: uint8(o + 1), B: n}
			may(t, c, -1)
			c.Instrs[1] = api.Instr{Op: uint8(o + 1), A: n, B: n}
			may(t, c, -1)
		}
	}
}

func TestParts(t *testing.T) {
	wrong(t, "")
	end := code("end").Instrs
	for _, n := range []int{0, 1, api.MaxArgs} {
		may(t, api.Code{Instrs: end, Params: n}, 0)
	}
	for _, n := range []int{-1, api.MaxArgs + 1, math.MaxInt, math.MinInt} {
		may(t, api.Code{Instrs: end, Params: n}, -1)
	}
	for _, n := range []int{0, 1, api.MaxNodes} {
		may(t, api.Code{Instrs: end, Slots: n}, 0)
	}
	for _, n := range []int{-1, api.MaxNodes + 1, math.MaxInt, math.MinInt} {
		may(t, api.Code{Instrs: end, Slots: n}, -1)
	}
	may(t, api.Code{Instrs: end, Names: []string{"", "a", "a", "\x00\n", times("a", api.MaxString)}}, 0)
	may(t, api.Code{Instrs: end, Names: []string{"a", times("a", api.MaxString+1)}}, -1)
	most := api.Code{Instrs: make([]api.Instr, 1<<17)}
	for i := range most.Instrs {
		most.Instrs[i] = api.Instr{Op: op("this")}
	}
	most.Instrs[1<<17-1] = api.Instr{Op: op("end")}
	may(t, most, 1<<17-1)
	may(t, api.Code{Instrs: append(most.Instrs, api.Instr{Op: op("end")})}, -1)
}

func TestConstants(t *testing.T) {
	end := code("end").Instrs
	for _, v := range []api.Value{
		{}, {Kind: api.Null}, {Kind: api.Boolean}, {Kind: api.Boolean, Num: 1},
		{Kind: api.Number}, {Kind: api.Number, Num: api.MaxSafe}, {Kind: api.Number, Num: -api.MaxSafe}, {Kind: api.Number, Num: math.NaN()},
		{Kind: api.String}, {Kind: api.String, Str: "\x00\xff"}, {Kind: api.String, Str: times("a", api.MaxString)},
		{Kind: api.Symbol}, {Kind: api.Symbol, Ref: math.MaxInt},
	} {
		may(t, api.Code{Instrs: end, Consts: []api.Value{{}, v, v}}, 0)
		for _, w := range []api.Value{{Num: 1}, {Num: math.Copysign(0, -1)}, {Num: math.NaN()}, {Str: "a"}, {Ref: 1}, {Ref: -1}} {
			w.Kind = v.Kind
			if v.Kind <= api.Null {
				may(t, api.Code{Instrs: end, Consts: []api.Value{v, w}}, -1)
			}
		}
	}
	minus := math.Copysign(0, -1)
	for _, v := range []api.Value{
		{Kind: api.Boolean, Num: 2}, {Kind: api.Boolean, Num: -1}, {Kind: api.Boolean, Num: 0.5}, {Kind: api.Boolean, Num: math.NaN()}, {Kind: api.Boolean, Str: "a"}, {Kind: api.Boolean, Num: 1, Ref: 1},
		{Kind: api.Number, Num: 0.5}, {Kind: api.Number, Num: minus}, {Kind: api.Number, Num: math.Inf(1)}, {Kind: api.Number, Num: math.Inf(-1)}, {Kind: api.Number, Num: api.MaxSafe + 1}, {Kind: api.Number, Num: -api.MaxSafe - 1}, {Kind: api.Number, Num: 1, Str: "1"}, {Kind: api.Number, Ref: 1}, {Kind: api.Number, Num: math.NaN(), Ref: 1},
		{Kind: api.String, Str: times("a", api.MaxString+1)}, {Kind: api.String, Str: "1", Num: 1}, {Kind: api.String, Ref: 1}, {Kind: api.String, Num: minus}, {Kind: api.String, Num: math.NaN()},
		{Kind: api.Symbol, Ref: -1}, {Kind: api.Symbol, Ref: math.MinInt}, {Kind: api.Symbol, Num: 1}, {Kind: api.Symbol, Str: "a"}, {Kind: api.Symbol, Num: minus},
		{Kind: api.Thing}, {Kind: api.Func}, {Kind: api.Maker, Ref: 3}, {Kind: 9}, {Kind: 255},
	} {
		may(t, api.Code{Instrs: end, Consts: []api.Value{{}, v}}, -1)
	}
}

func TestLists(t *testing.T) {
	end := code("end")
	for _, c := range []struct {
		codes, at int
		code      string
		want      api.Errno
	}{
		{1, 0, "func 0; end", api.OK}, {1, 0, "func 1; end", api.ErrCode}, {1, 0, "end; func 1", api.ErrCode},
		{3, 2, "func 2; end", api.OK}, {3, 0, "func 3; end", api.ErrCode}, {3, 2, "pop; end", api.ErrCode}, {3, 1, "", api.ErrCode},
		{api.MaxNodes, 9, "func 16383; end", api.OK}, {api.MaxNodes, api.MaxNodes - 1, "func 16384; end", api.ErrCode}, {api.MaxNodes, api.MaxNodes - 1, "pop; end", api.ErrCode},
		{api.MaxNodes + 1, 0, "end", api.ErrCode},
	} {
		l := make([]api.Code, c.codes)
		for i := range l {
			l[i] = end
		}
		l[c.at] = code(c.code)
		if e := emit.Check(l); e != c.want {
			t.Error(c, int(e))
		}
		if _, e := emit.Text(l); e != c.want {
			t.Error(c, int(e))
		}
	}
	if e := emit.Check([]api.Code{}); e != api.ErrCode {
		t.Error(int(e))
	}
	for s, want := range map[string]int{"func 16383; end": 1, "func 16384; end": -1, "func 0; func 1; end": 2} {
		n, e := emit.High(code(s))
		if n != max(want, 0) || (e == api.OK) != (want >= 0) || want < 0 && e != api.ErrCode {
			t.Error(s, n, int(e))
		}
	}
	if n, e := emit.High(api.Code{}); n != 0 || e != api.ErrCode {
		t.Error(n, int(e))
	}
}

// Each instruction takes what its row tells, and puts what it tells.
func TestTaken(t *testing.T) {
	for o := range rows {
		i := api.Instr{Op: uint8(o + 1)}
		all := []api.Instr{i}
		switch called(i.Op) {
		case "op":
			for n := 1; n < len(names); n++ {
				all = append(all, api.Instr{Op: i.Op, A: n})
			}
		case "array", "call", "new":
			all = append(all, api.Instr{Op: i.Op, A: 1}, api.Instr{Op: i.Op, A: 5}, api.Instr{Op: i.Op, A: 64})
		case "try", "loop", "keys", "items", "next", "leave", "unguard", "resume", "break", "continue", "jump", "unless", "and", "or":
			continue
		}
		for _, i := range all {
			taken(t, i)
		}
	}
}

// taken holds an instruction that leads to the next one alone, or to none, against what it takes and puts.
func taken(t *testing.T, i api.Instr) {
	t.Helper()
	takes, puts := needs(i)
	for _, n := range []int{takes - 1, takes, takes + 3} {
		if n < 0 {
			continue
		}
		left := max(n-takes+puts, 0)
		c := code(times("this; ", n) + "end; " + times("pop; ", left) + "end; end")
		c.Instrs[n] = i
		if n < takes {
			may(t, c, -1)
			continue
		}
		may(t, c, max(n, left))
		switch called(i.Op) {
		case "return", "throw", "end":
		default:
			c.Instrs[n+1+left] = api.Instr{Op: op("pop")}
			may(t, c, -1)
		}
	}
}

func TestPlaces(t *testing.T) {
	well(t, 0, "end", "jump 2; end; end", "jump 0", "jump 2; pop; end", "end; pop; leave; jump 1", "end; this", "jump 1; end")
	well(t, 1, "this; return", "this; throw", "this; unless 2; end", "this; unless 3; end; end", "this; unless 0; end",
		"this; and 3; jump 0; throw", "this; and 3; this; end", "this; or 3; end; throw", "this; or 3; this; return", "this; unless 4; this; jump 5; this; return")
	well(t, 2, "this; dup; pop; pop; end", "this; this; swap; return", "this; keep; this; this; op 6; keep; end", "this; this; op 28; return",
		"this; this; op 20; return; this; this; this; this", "this; this; and 4; this; op 6; return")
	well(t, 4, "this; this; dup2; op 6; op 6; op 6; return")
	wrong(t, "this", "jump 1; this", "this; pop", "pop", "jump 2; end; pop; end", "this; jump 0", "unless 1; end", "and 1; end", "or 1; end",
		"this; unless 2", "this; unless 1; end", "this; unless 3; this; end", "this; and 2; end", "this; or 2; end", "this; and 0; end", "this; or 0; end",
		"this; and 4; this; this; end", "this; unless 4; this; jump 4; end")
}

func TestScopesAndFinallys(t *testing.T) {
	well(t, 0, "scope 0; leave; end", "scope 3; scope 1; leave; leave; end", "scope 1; end", "normal; resume; end", "normal; normal; resume; end")
	well(t, 1, "this; unless 4; scope 0; jump 5; scope 9; leave; end", "this; unless 4; normal; jump 5; normal; resume; end")
	wrong(t, "leave; end", "scope 0; leave; leave; end", "scope 0", "scope 0; jump 0", "this; unless 3; scope 0; end",
		"resume; end", "normal; resume; resume; end", "normal; jump 0", "this; unless 3; normal; end")
}

func TestThrowsGuard(t *testing.T) {
	well(t, 1, "try 2 -1; end; throw", "try 4 -1; unguard; jump 3; end; throw", "scope 1; try 3 -1; end; leave; return",
		"loop 3 4; try 5 -1; end; end; end; unguard; return", "normal; try 3 -1; end; resume; return")
	well(t, 2, "this; try 3 -1; end; op 6; return", "try 5 -1; this; this; scope 9; end; return")
	wrong(t, "try 1 -1; end", "try 0 -1; end", "try 2 -1; end; dup2; end", "try 2 -1; end; leave; end", "try 3 -1; scope 0; end; leave; end",
		"try 2 -1; end; unguard; end", "try 2 -1; end; resume; end", "try 3 -1; normal; end; resume; end", "unguard; end", "try 3 -1; unguard; unguard; throw",
		"try 2 -1; unguard; end", "this; try 3 -1; pop; end")
}

func TestFinallysGuard(t *testing.T) {
	well(t, 0, "try -1 3; unguard; normal; resume; end", "try -1 2; end; resume; end", "scope 0; try -1 3; end; leave; resume; end", "loop 3 4; try -1 5; end; end; end; unguard; resume; end")
	well(t, 1, "this; try -1 3; end; resume; return", "try -1 3; this; end; resume; end")
	wrong(t, "try -1 1; end", "try -1 0; end", "try -1 2; end; pop; end", "try -1 2; end; leave; end", "try -1 3; scope 0; end; leave; end",
		"try -1 2; end; unguard; end", "try -1 2; end; resume; resume; end", "try -1 2; unguard; resume; end", "try -1 2; normal; resume; end")
}

func TestLoopsGuard(t *testing.T) {
	well(t, 0, "loop 2 1; break; end", "loop 3 1; continue; end; end", "loop 2 3; continue; end; unguard; end", "loop 2 1; jump 1; end", "loop 0 1; break", "scope 0; loop 3 5; end; leave; end; leave; end")
	well(t, 1, "this; loop 3 4; break; return; unguard; return")
	wrong(t, "loop 1 1; end", "loop 1 2; end; end", "loop 0 0; end", "loop 2 1; scope 0; end", "loop 2 3; break; unguard; end", "loop 3 2; break; end; unguard; end",
		"loop 2 3; end; pop; end", "loop 2 3; end; leave; end", "loop 2 3; end; resume; end",
		"loop 2 3; end; end; pop; end", "loop 2 3; end; end; leave; end", "loop 2 3; end; end; resume; end", "loop 2 3; end; end; unguard; unguard; end")
	// A loop's guard is found whatever stands behind it; what is gone, and what is none, is not.
	well(t, 1, "loop 4 1; try 5 -1; try -1 6; break; end; throw; resume; end", "loop 4 1; try 5 -1; try -1 6; continue; end; throw; resume; end", "this; keys 4 2; try 5 -1; continue; end; throw")
	for _, s := range []string{"break", "continue"} {
		wrong(t, s, "try 2 -1; "+s+"; throw", "try -1 2; "+s+"; end", "loop 3 1; unguard; "+s+"; end", "this; keys 4 2; unguard; "+s+"; end", "this; items 4 2; unguard; "+s+"; end")
	}
}

func TestNext(t *testing.T) {
	for _, s := range []string{"keys", "items"} {
		well(t, 1, "this; "+s+" 5 2; next 4; end; unguard; end", "this; "+s+" 6 2; next 5; pop; jump 2; unguard; end", "this; "+s+" 6 2; next 5; pop; continue; unguard; end",
			"this; "+s+" 3 2; break; end", "this; "+s+" 8 2; try 7 -1; unguard; next 6; throw; end; throw; end", "this; "+s+" 4 2; next 2; throw; end")
		well(t, 2, "this; this; "+s+" 4 3; break; return", "this; this; "+s+" 6 3; next 3; op 6; return; return")
		wrong(t, s+" 1 1; end", "this; "+s+" 5 2; next 5; end; unguard; end", "this; "+s+" 5 2; next 4; jump 2; unguard; end", "this; "+s+" 3 2; end; pop; end",
			"this; "+s+" 3 4; end; end; pop; end", "this; "+s+" 3 2; next 2; end", "this; "+s+" 4 2; loop 4 3; next 3; end", "this; "+s+" 4 2; try 5 -1; next 3; end; throw",
			"this; "+s+" 4 2; unguard; next 4; end")
	}
	wrong(t, "next 1; end", "loop 3 1; next 2; end; end", "try -1 3; next 2; end; resume; end", "try 3 -1; next 2; end; throw")
}

// Guards are the same where all of it is: their kind, their places, where they were put, and what is ahead of them.
func TestSameGuards(t *testing.T) {
	well(t, 1, "this; unless 4; loop 6 7; jump 5; loop 6 7; break; end; continue", "this; unless 4; try 6 -1; jump 5; try 6 -1; end; throw", "this; unless 4; try -1 6; jump 5; try -1 6; end; resume; end")
	well(t, 2, "this; this; unless 5; keys 7 6; jump 6; keys 7 6; continue; end", "this; this; unless 5; items 7 6; jump 6; items 7 6; continue; end")
	wrong(t, "this; unless 4; loop 6 7; jump 5; loop 6 8; break; end; end; end", "this; unless 4; loop 6 8; jump 5; loop 7 8; break; end; end; end",
		"this; unless 4; try 6 -1; jump 5; try 7 -1; end; throw; throw", "this; unless 4; try -1 6; jump 5; try -1 8; end; resume; end; resume; end",
		"this; unless 4; try 6 -1; jump 5; try -1 7; end; throw; resume; end", "this; unless 4; try 6 -1; jump 5; loop 7 8; end; throw; end; end",
		"this; this; unless 5; keys 7 6; jump 6; items 7 6; continue; end", "this; this; unless 6; pop; loop 8 7; jump 7; keys 8 7; continue; end",
		"this; unless 3; loop 6 5; loop 7 4; end; end; end; end", "this; unless 5; loop 9 3; this; jump 7; this; loop 8 7; break; end; end")
}

// Every code of a few instructions of some alphabets, against the chapter's words.
func TestShortCodes(t *testing.T) {
	const most = 4
	places := func(row string) []string {
		l := []string{row}
		for strings.Contains(l[0], "P") {
			var next []string
			for _, s := range l {
				for n := range most {
					next = append(next, strings.Replace(s, "P", strconv.Itoa(n), 1))
				}
			}
			l = next
		}
		return l
	}
	maybe, not := 0, 0
	for _, rows := range []string{
		"this|pop|jump P|unless P|and P|or P|end|throw|dup|dup2",
		"try P -1|try -1 P|unguard|normal|resume|end|throw|jump P",
		"loop P P|break|continue|unguard|end|next P",
		"this|keys P P|next P|break|pop|unguard",
		"this|items P P|next P|scope 0|end",
		"scope 0|leave|this|unless P|end|normal|resume|try P -1",
		"loop P P|try -1 P|break|unguard|end",
		"this|array 2|call 0|new 1|op 27|op 30|define 0|swap|return|key|keep|init 0|store 0 0|func 0|object|end",
	} {
		var all []api.Instr
		for _, row := range strings.Split(rows, "|") {
			for _, s := range places(row) {
				all = append(all, code(s).Instrs...)
			}
		}
		var add func(api.Code)
		add = func(c api.Code) {
			if len(c.Instrs) > 0 {
				want := high(c, 1)
				if want >= 0 {
					maybe++
				} else {
					not++
				}
				if n, e := emit.High(c); (e == api.OK) != (want >= 0) || n != max(want, 0) {
					t.Fatalf("%s: %d %d, not %d", written(c), n, int(e), want)
				}
			}
			if len(c.Instrs) == most || len(all) > 20 && len(c.Instrs) == most-1 {
				return
			}
			for _, i := range all {
				add(api.Code{Instrs: append(c.Instrs[:len(c.Instrs):len(c.Instrs)], i)})
			}
		}
		add(api.Code{})
	}
	if maybe < 5000 || not < 5000 {
		t.Error(maybe, not)
	}
}

// Codes of trees in which an instruction or two are changed, against the chapter's words.
func TestChangedCodes(t *testing.T) {
	maybe, not := 0, 0
	for seed := range uint64(500) {
		s := newMade(seed, 20+int(seed%80)).script()
		tree, _, e := parse.Parse(s)
		if e != api.OK {
			t.Fatal(s)
		}
		if _, e := scope.Check(tree); e != api.OK {
			continue
		}
		l, _ := emit.Codes(tree)
		r := rand.New(rand.NewPCG(seed, 7))
		for range 40 {
			c := clone(l)[r.IntN(len(l))]
			for range 1 + r.IntN(2) {
				c = changed(r, c)
			}
			want := high(c, api.MaxNodes)
			if want >= 0 {
				maybe++
			} else {
				not++
			}
			if n, e := emit.High(c); (e == api.OK) != (want >= 0) || n != max(want, 0) {
				t.Fatalf("%s: %d %d, not %d", shown(c), n, int(e), want)
			}
		}
	}
	if maybe < 1000 || not < 1000 {
		t.Error(maybe, not)
	}
}

// changed is a code with one change, whose places go along where something is put in or taken away.
func changed(r *rand.Rand, c api.Code) api.Code {
	at := r.IntN(len(c.Instrs))
	random := api.Instr{Op: uint8(1 + r.IntN(40)), A: r.IntN(4) - 1, B: r.IntN(4) - 1}
	switch r.IntN(6) {
	case 0:
		c.Instrs[at] = random
	case 1:
		c.Instrs[at].A = r.IntN(len(c.Instrs)+2) - 1
	case 2:
		c.Instrs[at].B = r.IntN(len(c.Instrs)+2) - 1
	case 3:
		random.A, random.B = max(random.A, 0), 0
		c.Instrs = append(c.Instrs[:at:at], append([]api.Instr{random}, c.Instrs[at:]...)...)
		moved(c, at, 1)
	case 4:
		if len(c.Instrs) > 1 {
			c.Instrs = append(c.Instrs[:at:at], c.Instrs[at+1:]...)
			moved(c, at, -1)
		}
	default:
		to := r.IntN(len(c.Instrs))
		c.Instrs[at], c.Instrs[to] = c.Instrs[to], c.Instrs[at]
	}
	return c
}

func moved(c api.Code, from, by int) {
	for n := range c.Instrs {
		i := &c.Instrs[n]
		switch called(i.Op) {
		case "try", "loop", "keys", "items":
			if i.B > from {
				i.B += by
			}
			fallthrough
		case "jump", "unless", "and", "or", "next":
			if i.A > from {
				i.A += by
			}
		}
	}
}

// Guards may stand in one another as deep as there are instructions.
func TestManyGuards(t *testing.T) {
	const n = 1 << 17
	c := api.Code{Instrs: make([]api.Instr, n)}
	for i := range c.Instrs {
		c.Instrs[i] = api.Instr{Op: op("loop"), A: i, B: i + 1}
	}
	c.Instrs[n-1] = api.Instr{Op: op("continue")}
	may(t, c, 0)
	for i := range c.Instrs[:n/2] {
		c.Instrs[i] = api.Instr{Op: op("try"), A: -1, B: n - 1}
	}
	may(t, c, -1)
	// As many ways lead to each place as there are guards, and all of them with the same ones.
	c = api.Code{Instrs: make([]api.Instr, n)}
	for i := 0; i+4 < n; i += 4 {
		copy(c.Instrs[i:], []api.Instr{{Op: op("this")}, {Op: op("unless"), A: i + 3}, {Op: op("jump"), A: i + 3}, {Op: op("loop"), A: i + 3, B: i + 4}})
	}
	copy(c.Instrs[n-4:], code("break; end; end; end").Instrs)
	may(t, c, 1)
}
