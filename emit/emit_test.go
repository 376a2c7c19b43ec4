package emit_test

import (
	"slices"
	"strconv"
	"strings"
	"testing"

	"bailiff/api"
	"bailiff/emit"
	"bailiff/parse"
)

func TestExamples(t *testing.T) {
	codes(t, "a + 1;", "0 0: scope 0; host 0 a; const 0 1; op 6 +; keep; end;")
	codes(t, "let x = 2; x;", "0 1: scope 1; const 0 2; init 0; load 0 0; keep; end;")
	codes(t, "while (true) break;", "0 0: scope 0; loop 7 2; const 0 true; unless 6; break; jump 2; unguard; end;")
	if e := emit.Check(nil); e != api.ErrCode {
		t.Error("none", int(e))
	}
	if e := emit.Check([]api.Code{code("end")}); e != api.OK {
		t.Error("end", int(e))
	}
	if e := emit.Check([]api.Code{code("pop; end")}); e != api.ErrCode {
		t.Error("pop", int(e))
	}
}

// P6.1

func TestNumbers(t *testing.T) {
	l := coded(t, "a; let b = 7;")
	c := l[0]
	if len(l) != 1 || !slices.Equal(c.Instrs, []api.Instr{{Op: 10, A: 1}, {Op: 9}, {Op: 39}, {Op: 1}, {Op: 8}, {Op: 40}}) {
		t.Error(c.Instrs)
	}
	if !slices.Equal(c.Consts, []api.Value{{Kind: api.Number, Num: 7}}) || !slices.Equal(c.Names, []string{"a"}) || c.Params != 0 || c.Slots != 1 {
		t.Error(c)
	}
	for i, name := range names {
		switch name {
		case "delete", "get", "keys", "length", "neg", "pos", "set", "typeof", "!", "~":
			continue
		}
		script(t, "a "+name+" b;", "host 0 a; host 1 b; op "+strconv.Itoa(i)+" "+name+"; keep;")
	}
}

func TestScript(t *testing.T) {
	script(t, "", "")
	script(t, "a; b; a;", "host 0 a; keep; host 1 b; keep; host 0 a; keep;")
	codes(t, "let a; const b = a; let c = b;",
		"0 3: scope 3; const 0 undefined; init 0; load 0 0; init 1; load 0 1; init 2; end;")
	codes(t, "let a; function f() {} const b = f; function g() {}",
		"0 4: scope 4; func 1; init 1; func 2; init 3; const 0 undefined; init 0; load 0 1; init 2; end;",
		"0 0: scope 0; const 0 undefined; return;",
		"0 0: scope 0; const 0 undefined; return;")
}

func TestFunctions(t *testing.T) {
	codes(t, "function f(a, b) { let c = a; return b; c; }",
		"0 1: scope 1; func 1; init 0; end;",
		"2 3: scope 3; arg 0 0; arg 1 1; load 0 0; init 2; load 0 1; return; load 0 2; pop; const 0 undefined; return;")
	codes(t, "(function f(a) { let b; f; });",
		"0 0: scope 0; func 1; keep; end;",
		"1 3: scope 3; own 0; arg 0 1; const 0 undefined; init 2; load 0 0; pop; const 0 undefined; return;")
	// The own name goes where a param, or what is declared, has it.
	codes(t, "(function f(f) {});", "0 0: scope 0; func 1; keep; end;", "1 1: scope 1; arg 0 0; const 0 undefined; return;")
	codes(t, "(function f(a) { let f; });", "0 0: scope 0; func 1; keep; end;", "1 2: scope 2; arg 0 0; const 0 undefined; init 1; const 0 undefined; return;")
	codes(t, "(function f() { const f = 1; });", "0 0: scope 0; func 1; keep; end;", "0 1: scope 1; const 0 1; init 0; const 1 undefined; return;")
	codes(t, "(function f() { function f() {} });",
		"0 0: scope 0; func 1; keep; end;",
		"0 1: scope 1; func 2; init 0; const 0 undefined; return;",
		"0 0: scope 0; const 0 undefined; return;")
	codes(t, "(function f() { { let f; } });",
		"0 0: scope 0; func 1; keep; end;",
		"0 1: scope 1; own 0; scope 1; const 0 undefined; init 0; leave; const 0 undefined; return;")
	codes(t, "(function f() {});", "0 0: scope 0; func 1; keep; end;", "0 1: scope 1; own 0; const 0 undefined; return;")
	codes(t, "(function () {});", "0 0: scope 0; func 1; keep; end;", "0 0: scope 0; const 0 undefined; return;")
	// A function that is declared has no own name, even where its scope has none of it.
	codes(t, "function f() { f; }", "0 1: scope 1; func 1; init 0; end;", "0 0: scope 0; load 1 0; pop; const 0 undefined; return;")
	codes(t, "(function f(a) { function g() { return a; } let b = g; function h() {} });",
		"0 0: scope 0; func 1; keep; end;",
		"1 5: scope 5; own 0; arg 0 1; func 2; init 2; func 3; init 4; load 0 2; init 3; const 0 undefined; return;",
		"0 0: scope 0; load 1 1; return; const 0 undefined; return;",
		"0 0: scope 0; const 0 undefined; return;")
}

// The codes are numbered as the nodes are: a function ahead of those within it, and these ahead of what stands behind it.
func TestOrder(t *testing.T) {
	codes(t, "a(function () { return function (b) { c; }; }, { get d() { return 1; }, set e(f) { f; } }); function g() {}",
		"0 1: scope 1; func 5; init 0; host 0 a; const 0 undefined; func 1; object; dup; const 1 \"d\"; func 3; define 1; dup; const 2 \"e\"; func 4; define 2; call 2; keep; end;",
		"0 0: scope 0; func 2; return; const 0 undefined; return;",
		"1 1: scope 1; arg 0 0; host 0 c; pop; const 0 undefined; return;",
		"0 0: scope 0; const 0 1; return; const 1 undefined; return;",
		"1 1: scope 1; arg 0 0; load 0 0; pop; const 0 undefined; return;",
		"0 0: scope 0; const 0 undefined; return;")
}

func TestStatements(t *testing.T) {
	script(t, ";", "")
	script(t, "{}", "scope 0; leave;")
	script(t, "{ let a; { a; } a; }", "scope 1; const 0 undefined; init 0; scope 0; load 1 0; keep; leave; load 0 0; keep; leave;")
	script(t, "{ let a; const b = 1; function f() {} }", "scope 3; func 1; init 2; const 0 undefined; init 0; const 1 1; init 1; leave;")
	script(t, "if (a) b;", "host 0 a; unless 5; host 1 b; keep;")
	script(t, "if (a) b; else c;", "host 0 a; unless 6; host 1 b; keep; jump 8; host 2 c; keep;")
	script(t, "if (a) ; else ;", "host 0 a; unless 4; jump 4;")
	script(t, "if (a) if (b) c; else d;", "host 0 a; unless 10; host 1 b; unless 8; host 2 c; keep; jump 10; host 3 d; keep;")
	script(t, "while (a) b;", "loop 8 2; host 0 a; unless 7; host 1 b; keep; jump 2; unguard;")
	script(t, "while (a) while (b) { break; continue; }", "loop 15 2; host 0 a; unless 14; loop 13 5; host 1 b; unless 12; scope 0; break; continue; leave; jump 5; unguard; jump 2; unguard;")
	script(t, "for (let a in b) a;", "host 0 b; keys 11 3; next 10; scope 1; init 0; load 0 0; keep; leave; jump 3; unguard;")
	script(t, "for (const a of b) { let c = a; continue; }", "host 0 b; items 14 3; next 13; scope 1; init 0; scope 1; load 1 0; init 0; continue; leave; leave; jump 3; unguard;")
	script(t, "for (let a of a) ;", "host 0 a; items 9 3; next 8; scope 1; init 0; leave; jump 3; unguard;")
	script(t, "throw a;", "host 0 a; throw;")
	script(t, "try { a; } catch (e) { e; }", "try 8 -1; scope 0; host 0 a; keep; leave; unguard; jump 13; scope 1; init 0; load 0 0; keep; leave;")
	script(t, "try { a; } finally { b; }", "try -1 8; scope 0; host 0 a; keep; leave; unguard; normal; scope 0; host 1 b; keep; leave; resume;")
	script(t, "try { a; } catch (e) { b; } finally { c; }", "try -1 16; try 9 -1; scope 0; host 0 a; keep; leave; unguard; jump 14; scope 1; init 0; host 1 b; keep; leave; unguard; normal; scope 0; host 2 c; keep; leave; resume;")
	script(t, "try {} catch (e) { function f() {} let a = f; }", "try 6 -1; scope 0; leave; unguard; jump 13; scope 3; init 0; func 1; init 1; load 0 1; init 2; leave;")
	script(t, "try { let a; } catch (e) { } finally { let b; }", "try -1 14; try 9 -1; scope 1; const 0 undefined; init 0; leave; unguard; jump 12; scope 1; init 0; leave; unguard; normal; scope 1; const 0 undefined; init 0; leave; resume;")
	codes(t, "function f() { return; } function g() { return 1; }",
		"0 2: scope 2; func 1; init 0; func 2; init 1; end;",
		"0 0: scope 0; const 0 undefined; return; const 0 undefined; return;",
		"0 0: scope 0; const 0 1; return; const 1 undefined; return;")
	// What is evaluated within a function is not kept, whatever is about it.
	codes(t, "{ (function () { { a; } }); }",
		"0 0: scope 0; scope 0; func 1; keep; leave; end;",
		"0 0: scope 0; scope 0; host 0 a; pop; leave; const 0 undefined; return;")
}

func TestValues(t *testing.T) {
	script(t, "1; 's'; true; false; null; this;", "const 0 1; keep; const 1 \"s\"; keep; const 2 true; keep; const 3 false; keep; const 4 null; keep; this; keep;")
	script(t, "a; undefined; a;", "host 0 a; keep; host 1 undefined; keep; host 0 a; keep;")
	script(t, "[]; [a, [b], 1];", "array 0; keep; host 0 a; host 1 b; array 1; const 0 1; array 3; keep;")
	script(t, "a.b; a.if; a[b];", "host 0 a; const 0 \"b\"; op 20 get; keep; host 0 a; const 1 \"if\"; op 20 get; keep; host 0 a; host 1 b; op 20 get; keep;")
	script(t, "a(); a(b, 1);", "host 0 a; const 0 undefined; call 0; keep; host 0 a; const 0 undefined; host 1 b; const 1 1; call 2; keep;")
	script(t, "a.b(c);", "host 0 a; dup; const 0 \"b\"; op 20 get; swap; host 1 c; call 1; keep;")
	script(t, "a[b](c, d);", "host 0 a; dup; host 1 b; op 20 get; swap; host 2 c; host 3 d; call 2; keep;")
	script(t, "a.b.c()();", "host 0 a; const 0 \"b\"; op 20 get; dup; const 1 \"c\"; op 20 get; swap; call 0; const 2 undefined; call 0; keep;")
	script(t, "(a.b)();", "host 0 a; dup; const 0 \"b\"; op 20 get; swap; call 0; keep;")
	script(t, "new a(); new a.b(c, 1);", "host 0 a; new 0; keep; host 0 a; const 0 \"b\"; op 20 get; host 1 c; const 1 1; new 2; keep;")
	script(t, "!a; -a; +a; ~a; typeof a;", "host 0 a; op 0 !; keep; host 0 a; op 25 neg; keep; host 0 a; op 26 pos; keep; host 0 a; op 30 ~; keep; host 0 a; op 28 typeof; keep;")
	script(t, "void a;", "host 0 a; pop; const 0 undefined; keep;")
	script(t, "delete a.b; delete a[b]; delete (a.b);", "host 0 a; const 0 \"b\"; op 19 delete; keep; host 0 a; host 1 b; op 19 delete; keep; host 0 a; const 0 \"b\"; op 19 delete; keep;")
	script(t, "delete 1; delete a(); delete !a.b;", "const 0 1; pop; const 1 true; keep; host 0 a; const 2 undefined; call 0; pop; const 1 true; keep; host 0 a; const 3 \"b\"; op 20 get; op 0 !; pop; const 1 true; keep;")
	script(t, "a && b; a || b;", "host 0 a; and 4; host 1 b; keep; host 0 a; or 8; host 1 b; keep;")
	script(t, "a && b && c;", "host 0 a; and 4; host 1 b; and 6; host 2 c; keep;")
	script(t, "a ? b : c;", "host 0 a; unless 5; host 1 b; jump 6; host 2 c; keep;")
	script(t, "a ? b ? 1 : 2 : 3;", "host 0 a; unless 9; host 1 b; unless 7; const 0 1; jump 8; const 1 2; jump 10; const 2 3; keep;")
	script(t, "a + b * c;", "host 0 a; host 1 b; host 2 c; op 5 *; op 6 +; keep;")
}

func TestObjects(t *testing.T) {
	script(t, "({});", "object; keep;")
	script(t, "({a: 1, 'b': 2, 7: 3, [c]: 4});", "object; dup; const 0 \"a\"; const 1 1; define 0; dup; const 2 \"b\"; const 3 2; define 0; dup; const 4 \"7\"; const 5 3; define 0; dup; host 0 c; key; const 6 4; define 0; keep;")
	script(t, "({get a() {}, set a(b) {}, get 1() {}, set [c](d) {}});", "object; dup; const 0 \"a\"; func 1; define 1; dup; const 0 \"a\"; func 2; define 2; dup; const 1 \"1\"; func 3; define 1; dup; host 0 c; key; func 4; define 2; keep;")
	script(t, "({['a']: {b: c}});", "object; dup; const 0 \"a\"; key; object; dup; const 1 \"b\"; host 0 c; define 0; define 0; keep;")
	script(t, "({9007199254740991: 0});", "object; dup; const 0 \"9007199254740991\"; const 1 0; define 0; keep;")
}

func TestAssign(t *testing.T) {
	codes(t, "let a; a = b;", "0 1: scope 1; const 0 undefined; init 0; host 0 b; store 0 0; keep; end;")
	codes(t, "let a; let b; { a = b = 1; }", "0 2: scope 2; const 0 undefined; init 0; const 0 undefined; init 1; scope 0; const 1 1; store 1 1; store 1 0; keep; leave; end;")
	script(t, "a.b = c;", "host 0 a; const 0 \"b\"; host 1 c; op 27 set; keep;")
	script(t, "a[b] = c;", "host 0 a; host 1 b; host 2 c; op 27 set; keep;")
	for i, sign := range []string{"%", "", "*", "+", "-", "/"} {
		if sign == "" {
			continue
		}
		named := strconv.Itoa(3+i) + " " + sign
		codes(t, "let a; a "+sign+"= b;", "0 1: scope 1; const 0 undefined; init 0; load 0 0; host 0 b; op "+named+"; store 0 0; keep; end;")
		script(t, "a.b "+sign+"= c;", "host 0 a; const 0 \"b\"; key; dup2; op 20 get; host 1 c; op "+named+"; op 27 set; keep;")
		script(t, "a[b] "+sign+"= c;", "host 0 a; host 1 b; key; dup2; op 20 get; host 2 c; op "+named+"; op 27 set; keep;")
	}
}

// Each code has its own Consts and Names, and no two of them are the same.
func TestConsts(t *testing.T) {
	script(t, "1; '1'; true; 'true'; null; 'null'; 1; '1'; 0; false; ''; void 0; 'undefined'; undefined; a.a; ({1: 1});",
		"const 0 1; keep; const 1 \"1\"; keep; const 2 true; keep; const 3 \"true\"; keep; const 4 null; keep; const 5 \"null\"; keep; const 0 1; keep; const 1 \"1\"; keep; const 6 0; keep; const 7 false; keep; const 8 \"\"; keep; const 6 0; pop; const 9 undefined; keep; const 10 \"undefined\"; keep; host 0 undefined; keep; host 1 a; const 11 \"a\"; op 20 get; keep; object; dup; const 1 \"1\"; const 0 1; define 0; keep;")
	codes(t, "2; a; function f() { 1; 2; b; a; }",
		"0 1: scope 1; func 1; init 0; const 0 2; keep; host 0 a; keep; end;",
		"0 0: scope 0; const 0 1; pop; const 1 2; pop; host 0 b; pop; host 1 a; pop; const 2 undefined; return;")
	l := coded(t, `"\x00\xff\""; 9007199254740991;`)
	if !slices.Equal(l[0].Consts, []api.Value{{Kind: api.String, Str: "\x00\xff\""}, {Kind: api.Number, Num: api.MaxSafe}}) {
		t.Error(l[0].Consts)
	}
}

// refused holds what Codes tells of a tree against an error.
func refused(t *testing.T, tree api.Tree, want api.Errno) {
	t.Helper()
	if l, e := emit.Codes(tree); len(l) != 0 || e != want {
		t.Errorf("%d codes, %d, not %d", len(l), int(e), int(want))
	}
}

func TestRefused(t *testing.T) {
	refused(t, api.Tree{}, api.ErrSyntax)
	refused(t, api.Tree{Nodes: make([]api.Node, api.MaxNodes+1)}, api.ErrMany)
	refused(t, api.Tree{Nodes: make([]api.Node, api.MaxNodes)}, api.ErrSyntax)
	refused(t, api.Tree{Nodes: []api.Node{{Kind: api.NScript, Kids: []int{1}}, {Kind: api.NName, Text: "a"}}}, api.ErrSyntax)
	refused(t, api.Tree{Nodes: []api.Node{{Kind: api.NScript, Kids: []int{0}}}}, api.ErrSyntax)
	refused(t, api.Tree{Nodes: []api.Node{{Kind: api.NScript, Kids: []int{1}}, {Kind: api.NExpr, Kids: []int{2}}, {Kind: api.NNumber, Num: 0.5}}}, api.ErrSyntax)
	for _, s := range []string{"let a; let a;", "a = 1;", "const a = 1; a += 2;", "break;", "return;", "delete a;", "function f(a, a) {}"} {
		refused(t, parsed(t, s), api.ErrEarly)
	}
	deep := parsed(t, times("{", api.MaxNest)+times("}", api.MaxNest))
	last := len(deep.Nodes) - 1
	deep.Nodes[last].Kids = []int{last + 1}
	deep.Nodes = append(deep.Nodes, api.Node{Kind: api.NEmpty})
	refused(t, deep, api.ErrDeep)
	if parse.Check(deep) != api.ErrDeep {
		t.Error("not too deep")
	}
}

func TestLimits(t *testing.T) {
	script(t, times("{", api.MaxNest)+times("}", api.MaxNest), strings.TrimSpace(times("scope 0; ", api.MaxNest)+times("leave; ", api.MaxNest)))
	params := make([]string, api.MaxArgs)
	for i := range params {
		params[i] = "a" + strconv.Itoa(i)
	}
	l := coded(t, "(function f("+strings.Join(params, ", ")+") { f("+strings.Join(params, ", ")+"); new f("+strings.Join(params, ", ")+"); });")
	c := l[1]
	if c.Params != api.MaxArgs || c.Slots != api.MaxArgs+1 || c.Instrs[api.MaxArgs+1] != (api.Instr{Op: op("arg"), A: api.MaxArgs - 1, B: api.MaxArgs}) {
		t.Error(c.Params, c.Slots, c.Instrs[api.MaxArgs+1])
	}
	if !slices.Contains(c.Instrs, api.Instr{Op: op("call"), A: api.MaxArgs}) || !slices.Contains(c.Instrs, api.Instr{Op: op("new"), A: api.MaxArgs}) {
		t.Error(c.Instrs)
	}
	long := times("a", api.MaxString)
	l = coded(t, long+"."+long+"; '"+long+"'; ({"+long+": 1});")
	if !slices.Equal(l[0].Names, []string{long}) || len(l[0].Consts) != 2 || l[0].Consts[0].Str != long || emit.Check(l) != api.OK {
		t.Error(len(l[0].Names), len(l[0].Consts), int(emit.Check(l)))
	}
	n := api.MaxTokens/2 - 2
	l = coded(t, "["+times("1,", n)+"1];")
	if i := l[0].Instrs[n+2]; i != (api.Instr{Op: op("array"), A: n + 1}) || len(l[0].Consts) != 1 || emit.Check(l) != api.OK {
		t.Error(i, len(l[0].Consts), int(emit.Check(l)))
	}
	if high, e := emit.High(l[0]); high != n+1 || e != api.OK {
		t.Error(high, int(e))
	}
	n = api.MaxTokens / 8
	l = coded(t, times("(function(){});", n))
	if len(l) != n+1 || l[0].Instrs[2*n-1] != (api.Instr{Op: op("func"), A: n}) || emit.Check(l) != api.OK {
		t.Error(len(l), l[0].Instrs[2*n-1], int(emit.Check(l)))
	}
	// Each name is another one, and each const.
	var s strings.Builder
	n = api.MaxNodes / 4
	for i := range n - 1 {
		s.WriteString("a" + strconv.Itoa(i) + "=" + strconv.Itoa(i) + ";")
	}
	if refused(t, parsed(t, s.String()), api.ErrEarly); t.Failed() {
		return
	}
	l = coded(t, strings.ReplaceAll(s.String(), "=", "+"))
	if len(l[0].Names) != n-1 || len(l[0].Consts) != n-1 || l[0].Names[n-2] != "a"+strconv.Itoa(n-2) || l[0].Consts[n-2].Num != float64(n-2) {
		t.Error(len(l[0].Names), len(l[0].Consts))
	}
}
