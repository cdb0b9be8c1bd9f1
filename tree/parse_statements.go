package tree

import "trestle/api"

// statementReaders has the statements that begin with a word of their own; all others begin with what is set, or called.
func statementReaders() map[string]reader {
	return map[string]reader{
		"VAR":      (*parser).local,
		"IF":       (*parser).choice,
		"WHILE":    (*parser).loop,
		"RETURN":   (*parser).returning,
		"RAISE":    (*parser).raising,
		"TRY":      (*parser).trying,
		"LOCK":     (*parser).locking,
		"TYPECASE": (*parser).cases,
		"PUT":      (*parser).put,
		"JOIN":     (*parser).join,
		"SIGNAL":   (*parser).signal,
		"ALL":      (*parser).all,
		"ALERT":    (*parser).alert,
		"WAIT":     (*parser).wait,
	}
}

// block reads statements up to what ends them.
func (p *parser) block() int {
	var kids []int
	for kid := range p.sequence {
		kids = append(kids, kid)
	}
	return p.add(api.Node{Kind: api.StSeq}, kids...)
}

// sequence yields the statements of a block, as they are read.
func (p *parser) sequence(yield func(int) bool) {
	if p.statements[p.next().Text] == nil && !p.beginsPrimary() {
		return
	}
	for yield(p.statement()) && p.take(";") {
	}
}

func (p *parser) statement() int {
	if p.statements[p.next().Text] != nil {
		read := p.statements[p.skip()]
		return read(p)
	}
	return p.setOrDo()
}

// setOrDo judges what it read by its node, so that parentheses around it do not matter.
func (p *parser) setOrDo() int {
	at := p.postfix()
	n := p.nodes[at]
	switch {
	case n.Kind == api.ExCall:
		return p.add(api.Node{Kind: api.StDo}, at)
	case isDesignator(n) && p.take(":="):
		return p.add(api.Node{Kind: api.StSet}, at, p.expr())
	}
	panic(p.misfit())
}

func (p *parser) local() int {
	n := api.Node{Kind: api.StVar, Name: p.name()}
	p.need(":")
	t := p.typ()
	p.need(":=")
	return p.add(n, t, p.expr())
}

func (p *parser) choice() int {
	at := p.branch()
	p.need("END")
	return at
}

// branch reads an IF behind that word, and all behind it but the END: an ELSIF is another one in the block of ELSE.
func (p *parser) branch() int {
	kids := []int{p.expr()}
	p.need("THEN")
	kids = append(kids, p.block())
	switch {
	case p.take("ELSIF"):
		kids = append(kids, p.add(api.Node{Kind: api.StSeq}, p.branch()))
	case p.take("ELSE"):
		kids = append(kids, p.block())
	}
	return p.add(api.Node{Kind: api.StIf}, kids...)
}

func (p *parser) loop() int { return p.guarded(api.StWhile) }

func (p *parser) locking() int { return p.guarded(api.StLock) }

// guarded reads an expression and a block below a node of a kind.
func (p *parser) guarded(kind uint8) int {
	guard := p.expr()
	p.need("DO")
	block := p.block()
	p.need("END")
	return p.add(api.Node{Kind: kind}, guard, block)
}

func (p *parser) returning() int {
	if !p.beginsExpr() {
		return p.add(api.Node{Kind: api.StReturn})
	}
	return p.add(api.Node{Kind: api.StReturn}, p.expr())
}

func (p *parser) raising() int { return p.add(p.exception(api.StRaise)) }

func (p *parser) trying() int {
	kids := []int{p.block()}
	if p.take("FINALLY") {
		kids = append(kids, p.block())
		p.need("END")
		return p.add(api.Node{Kind: api.StFinally}, kids...)
	}
	p.need("EXCEPT")
	kids = append(kids, p.alternatives(p.handler, api.NdWhen)...)
	return p.add(api.Node{Kind: api.StTry}, kids...)
}

func (p *parser) cases() int {
	kids := []int{p.expr()}
	p.need("OF")
	kids = append(kids, p.alternatives(p.arm, api.NdArm)...)
	return p.add(api.Node{Kind: api.StCase}, kids...)
}

// alternatives reads what stands behind bars, and the block of ELSE below a node of a kind, up to the END.
func (p *parser) alternatives(read func() int, others uint8) []int {
	var kids []int
	for p.take("|") {
		kids = append(kids, read())
	}
	if p.take("ELSE") {
		kids = append(kids, p.add(api.Node{Kind: others}, p.block()))
	}
	p.need("END")
	return kids
}

func (p *parser) handler() int {
	n := p.exception(api.NdWhen)
	p.need("=>")
	return p.add(n, p.block())
}

func (p *parser) arm() int {
	n := api.Node{Kind: api.NdArm}
	t := p.typ()
	if p.take("(") {
		n.Var = p.name()
		p.need(")")
	}
	p.need("=>")
	return p.add(n, t, p.block())
}

func (p *parser) put() int { return p.add(api.Node{Kind: api.StPut}, p.expr()) }

func (p *parser) join() int { return p.add(api.Node{Kind: api.StJoin}, p.expr()) }

func (p *parser) signal() int { return p.add(api.Node{Kind: api.StSignal}, p.expr()) }

func (p *parser) all() int { return p.add(api.Node{Kind: api.StAll}, p.expr()) }

func (p *parser) alert() int { return p.add(api.Node{Kind: api.StAlert}, p.expr()) }

func (p *parser) wait() int {
	mutex := p.expr()
	p.need(",")
	return p.add(api.Node{Kind: api.StWait}, mutex, p.expr())
}
