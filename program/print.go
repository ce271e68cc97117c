package program

import (
	"strconv"
	"strings"
)

// Print tells the program as a text, each item on a line of its own.
func (p *Program) Print() string {
	var b strings.Builder
	last := ""
	for _, t := range p.tokens {
		// Of all INTs a dom's alone stands right behind a NAME.
		if t.kind == kindInt && last == kindName {
			b.WriteByte(' ')
		}
		b.WriteString(t.printed())
		last = t.kind
	}
	return b.String()
}

// printed tells a token with the blanks and the LF that belong to it wherever it stands.
func (t token) printed() string {
	switch t.kind {
	case "dom", "rel", ",":
		return t.text + " "
	case ":-":
		return " :- "
	case ";", ".":
		return t.text + "\n"
	case kindInt:
		return strconv.Itoa(t.value())
	}
	return t.text
}
