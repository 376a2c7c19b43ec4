package emit_test

import (
	"math/rand/v2"
	"strconv"
	"strings"
)

// made makes texts of all kinds of nodes, of few names, most of them without early errors.
type made struct {
	*rand.Rand
	out              strings.Builder
	left             int        // how much may still be made, about
	spare            [][]string // the names that are free to be declared in each open scope
	puts             []string   // those that may be assigned to, about
	loops, functions int
}

func newMade(seed uint64, size int) *made {
	return &made{Rand: rand.New(rand.NewPCG(seed, 6)), left: size}
}

func (m *made) put(l ...string) {
	for _, s := range l {
		m.out.WriteString(" " + s)
	}
}

func (m *made) one(l ...string) string { return l[m.IntN(len(l))] }

func (m *made) use() string { return m.one("a", "b", "c", "d", "E", "host") }

func (m *made) cut() bool {
	m.left--
	return m.left < 0
}

func (m *made) some(most int, each func()) {
	for n := m.IntN(most + 1); n > 0 && !m.cut(); n-- {
		each()
	}
}

// listed makes some with commas between.
func (m *made) listed(most int, each func()) {
	first := true
	m.some(most, func() {
		if !first {
			m.put(",")
		}
		first = false
		each()
	})
}

// in makes what stands in a scope of its own, of which some names are taken.
func (m *made) in(taken string, inside func()) {
	var l []string
	for _, s := range strings.Fields("a b c d") {
		if s != taken {
			l = append(l, s)
		}
	}
	m.spare = append(m.spare, l)
	puts := len(m.puts)
	inside()
	m.puts = m.puts[:puts]
	m.spare = m.spare[:len(m.spare)-1]
}

// fresh is a name that the innermost scope has not yet; empty, if there is none.
func (m *made) fresh() string {
	l := m.spare[len(m.spare)-1]
	if len(l) == 0 {
		return ""
	}
	i := m.IntN(len(l))
	name := l[i]
	m.spare[len(m.spare)-1] = append(append([]string(nil), l[:i]...), l[i+1:]...)
	return name
}

func (m *made) script() string {
	m.in("", func() { m.some(9, m.statement) })
	return m.out.String()
}

func (m *made) braces() {
	m.put("{")
	m.some(4, m.statement)
	m.put("}")
}

func (m *made) block() { m.in("", m.braces) }

func (m *made) statement() {
	name := ""
	if m.IntN(2) == 0 {
		name = m.fresh()
	}
	if name == "" {
		m.body()
		return
	}
	switch m.IntN(4) {
	case 0:
		m.put("const", name, "=")
		m.value()
		m.put(";")
	case 1:
		m.put("function", name)
		m.puts = append(m.puts, name)
		m.function("")
	default:
		m.put("let", name)
		m.puts = append(m.puts, name)
		if m.IntN(3) > 0 {
			m.put("=")
			m.value()
		}
		m.put(";")
	}
}

func (m *made) body() {
	if m.cut() {
		m.put(";")
		return
	}
	switch m.IntN(14) {
	case 0, 1:
		m.block()
	case 2, 3:
		m.put("if")
		m.inside()
		m.block()
		if m.IntN(2) == 0 {
			m.put("else")
			m.body()
		}
	case 4:
		m.put("while")
		m.inside()
		m.again()
	case 5, 6:
		name := m.one("a", "b", "c", "d")
		m.put("for", "(", m.one("let", "const"), name, m.one("in", "of"))
		m.value()
		m.put(")")
		m.in(name, m.again)
	case 7, 8:
		m.guarded()
	case 9:
		m.jump()
	default:
		m.put("(")
		m.value()
		m.put(")", ";")
	}
}

func (m *made) jump() {
	switch {
	case m.loops > 0 && m.IntN(2) == 0:
		m.put(m.one("break", "continue"))
	case m.functions > 0 && m.IntN(2) == 0:
		m.put("return")
		if m.IntN(2) == 0 {
			m.value()
		}
	case m.IntN(3) == 0:
		m.put("throw")
		m.value()
	}
	m.put(";")
}

func (m *made) again() {
	m.loops++
	m.body()
	m.loops--
}

func (m *made) guarded() {
	m.put("try")
	m.block()
	n := m.IntN(3)
	if n < 2 {
		name := m.one("a", "b", "c", "d")
		m.put("catch", "(", name, ")")
		m.in(name, m.braces)
	}
	if n > 0 {
		m.put("finally")
		m.block()
	}
}

// function makes one from its params on; own is what may be its name.
func (m *made) function(own string) {
	loops := m.loops
	m.loops = 0
	m.functions++
	m.in("", func() {
		m.put("(")
		first := true
		for range m.IntN(3) {
			if !first {
				m.put(",")
			}
			first = false
			name := m.fresh()
			m.puts = append(m.puts, name)
			m.put(name)
		}
		m.put(")")
		m.braces()
	})
	m.functions--
	m.loops = loops
}

func (m *made) inside() {
	m.put("(")
	m.value()
	m.put(")")
}

func (m *made) value() {
	if m.cut() {
		m.short()
		return
	}
	switch m.IntN(16) {
	case 0:
		name := m.one("", m.use())
		m.put("function", name)
		m.function(name)
	case 1, 2:
		m.assign()
	case 3:
		m.put(m.one("!", "-", "+", "~", "typeof", "void"))
		m.inside()
	case 4:
		m.put("delete", "(")
		m.reach()
		m.put(m.one("", "+ 1"), ")")
	case 5:
		m.put("{")
		m.listed(4, m.pair)
		m.put("}")
	case 6:
		m.put("[")
		m.listed(4, m.value)
		m.put("]")
	case 7:
		m.reach()
	case 8, 9:
		if m.IntN(3) == 0 {
			m.put("new")
		}
		m.put(m.one("(", "( this ."), m.use(), ")")
		if m.IntN(2) == 0 {
			m.put("[")
			m.value()
			m.put("]")
		}
		m.put("(")
		m.listed(3, m.value)
		m.put(")")
	case 10:
		m.inside()
		m.put(m.one("&&", "||"))
		m.inside()
	case 11:
		m.inside()
		m.put("?")
		m.value()
		m.put(":")
		m.value()
	case 12, 13:
		m.inside()
		m.put(m.one(strings.Fields("* / % + - << >> >>> < > <= >= in instanceof == != === !== & ^ |")...))
		m.inside()
	default:
		m.short()
	}
}

func (m *made) short() {
	switch m.IntN(4) {
	case 0:
		m.put(strconv.Itoa(m.IntN(4)))
	case 1:
		m.put(m.one("true", "false", "null", "this", "'a'", "'1'", "''", "undefined"))
	default:
		m.put(m.use())
	}
}

// reach is a member.
func (m *made) reach() {
	m.inside()
	if m.IntN(2) == 0 {
		m.put(".", m.one("a", "if", "get"))
		return
	}
	m.put("[")
	m.value()
	m.put("]")
}

func (m *made) pair() {
	loops, functions := m.loops, m.functions
	switch m.IntN(4) {
	case 0:
		m.put("get")
		m.key()
		m.loops, m.functions = 0, functions+1
		m.put("(", ")")
		m.block()
	case 1:
		m.put("set")
		m.key()
		m.loops, m.functions = 0, functions+1
		m.put("(", "c", ")")
		m.in("c", m.braces)
	default:
		m.key()
		m.put(":")
		m.value()
	}
	m.loops, m.functions = loops, functions
}

func (m *made) key() {
	switch m.IntN(4) {
	case 0:
		m.put(strconv.Itoa(m.IntN(3)))
	case 1:
		m.put("'a b'")
	case 2:
		m.put("[")
		m.value()
		m.put("]")
	default:
		m.put(m.one("a", "b", "if", "get"))
	}
}

// assign puts to what was a name, about, or to a member.
func (m *made) assign() {
	m.put("(")
	if len(m.puts) > 0 && m.IntN(2) == 0 {
		m.put(m.one(m.puts...))
	} else {
		m.reach()
	}
	m.put(m.one("=", "+=", "-=", "*=", "/=", "%="))
	m.value()
	m.put(")")
}
