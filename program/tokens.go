package program

import (
	"strings"

	"thresh/api"
)

// The kinds of tokens that have unlike texts, and the end. Any other token's kind is its text.
const (
	kindName = "NAME"
	kindVar  = "VAR"
	kindInt  = "INT"
	kindEnd  = "end"
)

// So many bytes a token may have.
const (
	longestName = 6
	longestInt  = 2
)

// marks are the tokens of one byte.
const marks = "(),;.!"

type token struct {
	kind, text string
	line       int
}

// scan tells the tokens of a text, the last one of which is its end.
func scan(text string) []token {
	var list []token
	line := 1
	for len(text) > 0 {
		long := 1
		switch text[0] {
		case '\n':
			line++
		case ' ', '\t':
		case '%':
			long = span(text, func(c byte) bool { return c != '\n' })
		default:
			kind, size := cut(text, line)
			list = append(list, token{kind, text[:size], line})
			long = size
		}
		text = text[long:]
	}
	return append(list, token{kindEnd, "", line})
}

// cut tells the kind and the length of the token that a text begins with.
func cut(text string, line int) (string, int) {
	switch c := text[0]; {
	case isSmall(c):
		return cutName(text, line)
	case isGreat(c):
		return kindVar, 1 + span(text[1:min(2, len(text))], isDigit)
	case isDigit(c):
		long := span(text, isDigit)
		forbidLonger(long, longestInt, line)
		return kindInt, long
	case strings.IndexByte(marks, c) >= 0:
		return text[:1], 1
	case strings.HasPrefix(text, ":-"):
		return ":-", 2
	}
	giveUp(api.ErrSyntax, line)
	return "", 0
}

func cutName(text string, line int) (string, int) {
	long := span(text, func(c byte) bool { return isSmall(c) || isDigit(c) })
	forbidLonger(long, longestName, line)
	if word := text[:long]; word == "dom" || word == "rel" {
		return word, long
	}
	return kindName, long
}

func forbidLonger(long, most, line int) {
	if long > most {
		giveUp(api.ErrSyntax, line)
	}
}

// span tells how many bytes at the beginning of a text are of a kind.
func span(text string, is func(c byte) bool) int {
	for i := range len(text) {
		if !is(text[i]) {
			return i
		}
	}
	return len(text)
}

func isSmall(c byte) bool { return c >= 'a' && c <= 'z' }

func isGreat(c byte) bool { return c >= 'A' && c <= 'Z' }

func isDigit(c byte) bool { return c >= '0' && c <= '9' }

// value tells the number of an INT.
func (t token) value() int {
	n := 0
	for i := range len(t.text) {
		n = 10*n + int(t.text[i]-'0')
	}
	return n
}
