package program

import "thresh/api"

// item is a part of a program as it was written. Whether its names and numbers are such as may be, it tells when it is added.
type item interface {
	addTo(m *meaning)
}

type domItem struct {
	name, size token
}

type relItem struct {
	name    token
	columns []token
}

type clauseItem struct {
	head atomItem
	lits []litItem
}

type litItem struct {
	atomItem
	not bool
}

type atomItem struct {
	name  token
	terms []token
}

// parser has the tokens that are still to be read. The end is never taken, so there is always one.
type parser struct {
	tokens []token
}

// parse tells the items of a program, or gives up at the first token that cannot stand where it stands.
func parse(tokens []token) []item {
	p := parser{tokens}
	var items []item
	for !p.sees(kindEnd) {
		items = append(items, p.item())
	}
	return items
}

func (p *parser) sees(kind string) bool {
	return p.tokens[0].kind == kind
}

func (p *parser) take(kind string) token {
	t := p.tokens[0]
	if t.kind != kind {
		giveUp(api.ErrSyntax, t.line)
	}
	p.tokens = p.tokens[1:]
	return t
}

// takes takes a token, if it is there.
func (p *parser) takes(kind string) bool {
	if !p.sees(kind) {
		return false
	}
	p.take(kind)
	return true
}

func (p *parser) item() item {
	switch {
	case p.takes("dom"):
		d := domItem{p.take(kindName), p.take(kindInt)}
		p.take(";")
		return d
	case p.takes("rel"):
		r := relItem{p.take(kindName), p.list(p.column)}
		p.take(";")
		return r
	}
	return p.clause()
}

func (p *parser) clause() clauseItem {
	c := clauseItem{head: p.atom()}
	if p.takes(":-") {
		c.lits = append(c.lits, p.lit())
		for p.takes(",") {
			c.lits = append(c.lits, p.lit())
		}
	}
	p.take(".")
	return c
}

func (p *parser) lit() litItem {
	not := p.takes("!")
	return litItem{p.atom(), not}
}

func (p *parser) atom() atomItem {
	return atomItem{p.take(kindName), p.list(p.term)}
}

func (p *parser) column() token { return p.take(kindName) }

func (p *parser) term() token {
	if p.sees(kindVar) {
		return p.take(kindVar)
	}
	return p.take(kindInt)
}

// list reads what stands between brackets, at least one.
func (p *parser) list(one func() token) []token {
	p.take("(")
	tokens := []token{one()}
	for p.takes(",") {
		tokens = append(tokens, one())
	}
	p.take(")")
	return tokens
}
