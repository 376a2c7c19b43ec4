package lex

import "strings"

// Word tells whether a name is a reserved word.
func Word(s string) bool {
	switch s {
	case "break", "case", "catch", "class", "const", "continue", "debugger", "default", "delete", "do",
		"else", "enum", "export", "extends", "false", "finally", "for", "function", "if", "import",
		"in", "instanceof", "let", "new", "null", "return", "super", "switch", "this", "throw",
		"true", "try", "typeof", "var", "void", "while", "with", "yield":
		return true
	}
	return false
}

// Sign tells whether a text is a sign.
func Sign(s string) bool { return s != "" && signed(s) == len(s) }

// signed is how many bytes the longest sign has that s begins with; 0: there is none. Each byte is asked for its longest signs first, and falls through to the shorter ones that others begin as well.
func signed(s string) int {
	switch s[0] {
	case '=', '!':
		if strings.HasPrefix(s[1:], "==") {
			return 3
		}
		fallthrough
	case '>':
		if strings.HasPrefix(s, ">>>") {
			return 3
		}
		fallthrough
	case '<':
		if strings.HasPrefix(s, ">>") || strings.HasPrefix(s, "<<") {
			return 2
		}
		fallthrough
	case '+', '-', '*', '/', '%':
		if strings.HasPrefix(s[1:], "=") {
			return 2
		}
		fallthrough
	case '{', '}', '(', ')', '[', ']', '.', ';', ',', '?', ':', '^', '~':
		return 1
	case '&', '|':
		if strings.HasPrefix(s[1:], s[:1]) {
			return 2
		}
		return 1
	}
	return 0
}

func blank(c byte) bool {
	switch c {
	case '\t', '\n', '\r', ' ':
		return true
	}
	return false
}

func digit(c byte) bool { return '0' <= c && c <= '9' }

// initial tells whether a name may begin with a byte; inner, whether it may go on with it.
func initial(c byte) bool {
	return 'a' <= c && c <= 'z' || 'A' <= c && c <= 'Z' || c == '_' || c == '$'
}

func inner(c byte) bool { return initial(c) || digit(c) }
