package tree

import (
	"slices"

	"trestle/api"
	"trestle/scan"
)

// primaryReaders has what begins with a word or a sign; names and numbers are read by their kinds.
func primaryReaders() map[string]reader {
	return map[string]reader{
		"NIL":      (*parser).nothing,
		"TRUE":     (*parser).truth,
		"FALSE":    (*parser).untruth,
		"(":        (*parser).parenthesized,
		"NEW":      (*parser).newObject,
		"NARROW":   (*parser).narrow,
		"LOOPHOLE": (*parser).loophole,
		"NUMBER":   (*parser).count,
		"FORK":     (*parser).fork,
	}
}

// expr reads an expression. Each of the functions behind it reads a rule of operators that bind tighter.
func (p *parser) expr() int { return p.chain(p.conjunction, "OR") }

func (p *parser) conjunction() int { return p.chain(p.negation, "AND") }

func (p *parser) negation() int {
	if p.take("NOT") {
		return p.add(api.Node{Kind: api.ExOp, Name: "NOT"}, p.negation())
	}
	return p.chain(p.sum, "<", "<=", "=", "#")
}

func (p *parser) sum() int { return p.chain(p.product, "+", "-") }

func (p *parser) product() int { return p.chain(p.unary, "*", "DIV", "MOD") }

func (p *parser) unary() int {
	if p.take("-") {
		return p.add(api.Node{Kind: api.ExOp, Name: "-"}, p.unary())
	}
	return p.postfix()
}

// chain reads operands with operators of one rule between them, from left to right.
func (p *parser) chain(operand func() int, operators ...string) int {
	left := operand()
	for slices.Contains(operators, p.next().Text) {
		operator := p.skip()
		right := operand()
		left = p.add(api.Node{Kind: api.ExOp, Name: operator}, left, right)
	}
	return left
}

// beginsExpr reports whether an expression may begin with the next token.
func (p *parser) beginsExpr() bool {
	return p.sees("NOT") || p.sees("-") || p.beginsPrimary()
}

func (p *parser) beginsPrimary() bool {
	token := p.next()
	return token.Kind == api.TokName || token.Kind == api.TokNumber || p.primaries[token.Text] != nil
}

// postfix knows by how something was written whether it can be called: what stands in parentheses cannot.
func (p *parser) postfix() int {
	callable := p.seesName()
	at := p.primary()
	for {
		switch {
		case p.take("."):
			at = p.add(api.Node{Kind: api.ExField, Name: p.name()}, at)
			callable = true
		case p.take("["):
			index := p.expr()
			p.need("]")
			at = p.add(api.Node{Kind: api.ExIndex}, at, index)
			callable = false
		case p.take("^"):
			at = p.add(api.Node{Kind: api.ExDeref}, at)
			callable = false
		case callable && p.take("("):
			kids := []int{at}
			kids = append(kids, p.arguments()...)
			at = p.add(api.Node{Kind: api.ExCall}, kids...)
			callable = false
		default:
			return at
		}
	}
}

func (p *parser) arguments() []int {
	if p.take(")") {
		return nil
	}
	kids := list(p, ",", p.expr)
	p.need(")")
	return kids
}

func (p *parser) primary() int {
	switch token := p.next(); {
	case token.Kind == api.TokName:
		return p.named()
	case token.Kind == api.TokNumber:
		// The scanner lets no token through that has no value.
		value, _ := scan.Value(p.skip())
		return p.add(api.Node{Kind: api.ExInt, N: value})
	case p.primaries[token.Text] != nil:
		read := p.primaries[p.skip()]
		return read(p)
	}
	panic(p.misfit())
}

// named reads a name, and a further one only if the first one is a qualifier of the unit: otherwise that is a field.
func (p *parser) named() int {
	if p.qualifiers[p.next().Text] {
		return p.add(p.qname(api.ExName))
	}
	return p.add(api.Node{Kind: api.ExName, Name: p.name()})
}

func (p *parser) nothing() int { return p.add(api.Node{Kind: api.ExNil}) }

func (p *parser) truth() int { return p.add(api.Node{Kind: api.ExBool, N: 1}) }

func (p *parser) untruth() int { return p.add(api.Node{Kind: api.ExBool}) }

func (p *parser) parenthesized() int {
	at := p.expr()
	p.need(")")
	return at
}

func (p *parser) newObject() int {
	p.need("(")
	kids := []int{p.typ()}
	if p.take(",") {
		kids = append(kids, p.expr())
	}
	p.need(")")
	return p.add(api.Node{Kind: api.ExNew}, kids...)
}

func (p *parser) narrow() int { return p.converted(api.ExNarrow) }

func (p *parser) loophole() int { return p.converted(api.ExLoop) }

// converted reads an expression and a type in parentheses below a node of a kind.
func (p *parser) converted(kind uint8) int {
	p.need("(")
	value := p.expr()
	p.need(",")
	to := p.typ()
	p.need(")")
	return p.add(api.Node{Kind: kind}, value, to)
}

func (p *parser) count() int { return p.enclosed(api.ExNumber) }

func (p *parser) fork() int { return p.enclosed(api.ExFork) }

// enclosed reads an expression in parentheses below a node of a kind.
func (p *parser) enclosed(kind uint8) int {
	p.need("(")
	return p.add(api.Node{Kind: kind}, p.parenthesized())
}
