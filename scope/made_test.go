package scope_test

import (
	"math/rand/v2"
	"strings"
)

// made makes texts that the grammar has, of few names, so that they hide one another.
type made struct {
	*rand.Rand
	out  strings.Builder
	left int // how much may still be made, about
	risk int // one of so many names, breaks, returns, deletes is put wherever it falls
	uses []string
	// What is said where nothing is risked: the names that are still free to be declared in each open scope, those that may be assigned to, how many loops and functions are about.
	spare            [][]string
	puts             []string
	loops, functions int
}

func newMade(seed uint64, size, risk int) *made {
	return &made{Rand: rand.New(rand.NewPCG(seed, 5)), left: size, risk: risk, uses: strings.Fields("a b c d host A")}
}

func (m *made) put(l ...string) {
	for _, s := range l {
		m.out.WriteString(m.one(" ", "  ", "\n"))
		m.out.WriteString(s)
	}
}

func (m *made) one(l ...string) string { return l[m.IntN(len(l))] }

func (m *made) use() string { return m.one(m.uses...) }

func (m *made) risky() bool { return m.IntN(m.risk) == 0 }

func (m *made) cut() bool {
	m.left--
	return m.left < 0
}

// in makes what stands in a scope of its own.
func (m *made) in(inside func()) {
	m.spare = append(m.spare, strings.Fields("a b c d"))
	inside()
	m.spare = m.spare[:len(m.spare)-1]
}

// fresh is a name that the innermost scope has not yet, as far as there is one.
func (m *made) fresh() string {
	l := m.spare[len(m.spare)-1]
	if len(l) == 0 || m.risky() {
		return m.use()
	}
	i := m.IntN(len(l))
	name := l[i]
	m.spare[len(m.spare)-1] = append(append([]string(nil), l[:i]...), l[i+1:]...)
	return name
}

func (m *made) script() string {
	m.in(func() { m.some(8, m.statement) })
	return m.out.String()
}

func (m *made) some(most int, each func()) {
	for n := m.IntN(most + 1); n > 0 && !m.cut(); n-- {
		each()
	}
}

// braces are the statements of a block that opens no scope.
func (m *made) braces() {
	m.put("{")
	m.some(4, m.statement)
	m.put("}")
}

func (m *made) block() { m.in(m.braces) }

func (m *made) statement() {
	switch m.IntN(7) {
	case 0:
		name := m.fresh()
		m.puts = append(m.puts, name)
		m.put("let", name, "=")
		m.value()
		m.put(";")
	case 1:
		m.put("const", m.fresh(), "=")
		m.value()
		m.put(";")
	case 2:
		m.put("function", m.fresh())
		m.function()
	default:
		m.body()
	}
}

func (m *made) body() {
	if m.cut() {
		m.put(";")
		return
	}
	switch m.IntN(12) {
	case 0, 1:
		m.block()
	case 2:
		m.put("if")
		m.inside()
		m.block()
		m.put("else")
		m.body()
	case 3:
		m.put("while")
		m.inside()
		m.again()
	case 4, 5:
		m.put("for", "(", m.one("let", "const"), m.use(), m.one("in", "of"))
		m.value()
		m.put(")")
		m.again()
	case 6:
		m.guarded()
	case 7:
		m.jump()
	default:
		m.put("(")
		m.value()
		m.put(")", ";")
	}
}

func (m *made) jump() {
	switch {
	case m.IntN(2) == 0 && (m.loops > 0 || m.risky()):
		m.put(m.one("break", "continue"))
	case m.functions > 0 || m.risky():
		m.put("return")
		m.value()
	}
	m.put(";")
}

func (m *made) again() {
	m.loops++
	m.body()
	m.loops--
}

func (m *made) guarded() {
	m.put("try")
	m.block()
	n := m.IntN(3)
	if n < 2 {
		m.put("catch", "(")
		m.in(func() {
			m.put(m.fresh(), ")")
			m.braces()
		})
	}
	if n > 0 {
		m.put("finally")
		m.block()
	}
}

func (m *made) function() {
	loops := m.loops
	m.loops = 0
	m.functions++
	m.in(func() {
		m.put("(")
		for i := range m.IntN(3) {
			if i > 0 {
				m.put(",")
			}
			m.put(m.fresh())
		}
		m.put(")")
		m.braces()
	})
	m.functions--
	m.loops = loops
}

func (m *made) inside() {
	m.put("(")
	m.value()
	m.put(")")
}

func (m *made) value() {
	if m.cut() {
		m.put(m.use())
		return
	}
	switch m.IntN(10) {
	case 0, 1:
		m.put("function", m.one("", m.use()))
		m.function()
	case 2:
		m.assign()
	case 3:
		m.put(m.one("typeof", "void", "!"), m.use(), "+")
		m.value()
	case 4:
		m.put("delete", m.use())
		if !m.risky() {
			m.put(".", m.use())
		}
	case 5:
		m.put("{", m.use(), ":")
		m.value()
		m.put(",", "get", m.use(), "(", ")")
		m.accessor("")
		m.put(",", "set", "[")
		m.value()
		m.put("]")
		name := m.use()
		m.put("(", name, ")")
		m.accessor(name)
		m.put("}")
	case 6:
		m.put(m.use(), "[")
		m.value()
		m.put("]")
	default:
		m.put(m.use())
	}
}

// accessor is its block, in which its param's name is none to be declared.
func (m *made) accessor(param string) {
	loops := m.loops
	m.loops = 0
	m.functions++
	m.in(func() {
		l := m.spare[len(m.spare)-1]
		for i := len(l) - 1; i >= 0; i-- {
			if l[i] == param {
				l = append(l[:i], l[i+1:]...)
			}
		}
		m.spare[len(m.spare)-1] = l
		m.braces()
	})
	m.functions--
	m.loops = loops
}

// assign puts to what was a let's name somewhere, or to a member.
func (m *made) assign() {
	m.put("(")
	if len(m.puts) > 0 && m.IntN(3) == 0 || m.risky() {
		m.put(m.one(append(m.puts, m.use())...))
	} else {
		m.put(m.use(), ".", m.use())
	}
	m.put(m.one("=", "+="))
	m.value()
	m.put(")")
}
