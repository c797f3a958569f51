package lexer

import (
	"strings"

	"kerbside/api"
)

const maxValue = 400 // bytes of the value of a quoted string

var signs = [...]byte{'(', ')', ',', ';', ':', '=', '<', '+', '-', '*', '/', '{', '}'}

// gap returns the size of the blanks and comments with which s begins.
func gap(s string) int {
	inComment := false
	for i := range len(s) {
		switch b := s[i]; {
		case inComment:
			inComment = b != '\n'
		case b == '#':
			inComment = true
		case !isBlank(b):
			return i
		}
	}
	return len(s)
}

// first returns the token at the beginning of s, which is not empty, as if it stood at 0, and its size.
func first(s string) (api.Token, int, api.Errno) {
	switch b := s[0]; {
	case isLetter(b):
		return name(s[:count(s, isNameByte)])
	case isDigit(b):
		return number(s[:count(s, isDigit)])
	case b == '"':
		return quoted(s)
	case isSign(b):
		return api.Token{Kind: api.TkSign, Text: s[:1]}, 1, api.OK
	}
	return api.Token{}, 0, api.ErrToken
}

func name(s string) (api.Token, int, api.Errno) {
	if !Name(s) {
		return api.Token{}, 0, api.ErrRange
	}
	return api.Token{Kind: api.TkName, Text: s}, len(s), api.OK
}

func number(s string) (api.Token, int, api.Errno) {
	n, valid := Number(s)
	if !valid {
		return api.Token{}, 0, api.ErrRange
	}
	return api.Token{Kind: api.TkNumber, Text: s, N: n}, len(s), api.OK
}

// quoted reads the quoted string at the beginning of s.
func quoted(s string) (api.Token, int, api.Errno) {
	var value strings.Builder
	size, closed := 1, false
reading:
	for size < len(s) {
		b := s[size]
		size++
		switch b {
		case '"':
			closed = true
			break reading
		case '\\':
			if size == len(s) || s[size] != '"' && s[size] != '\\' {
				break reading
			}
			b = s[size]
			size++
		}
		value.WriteByte(b)
	}
	if !closed || !isValue(value.String()) {
		return api.Token{}, 0, api.ErrForm
	}
	return api.Token{Kind: api.TkString, Text: value.String()}, size, api.OK
}

// count returns how many bytes of a kind s begins with.
func count(s string, is func(byte) bool) int {
	n := 0
	for n < len(s) && is(s[n]) {
		n++
	}
	return n
}

// isValue reports whether s is a valid value of a quoted string.
func isValue(s string) bool { return len(s) <= maxValue && count(s, isPlain) == len(s) }

func isPlain(b byte) bool { return ' ' <= b && b <= '~' }

func isBlank(b byte) bool { return b == '\t' || b == '\n' || b == ' ' }

func isLetter(b byte) bool { return 'a' <= b && b <= 'z' || 'A' <= b && b <= 'Z' }

func isDigit(b byte) bool { return '0' <= b && b <= '9' }

func isNameByte(b byte) bool { return isLetter(b) || isDigit(b) || b == '_' }

func isSign(b byte) bool {
	for _, x := range signs {
		if b == x {
			return true
		}
	}
	return false
}
