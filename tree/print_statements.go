package tree

import "trestle/api"

// block writes the lines of statements, with a ";" behind each that another one follows.
func (p *printer) block(at int) {
	p.depth++
	kids := p.nodes[at].Kids
	for i, kid := range kids {
		p.statement(p.nodes[kid])
		if i < len(kids)-1 {
			p.put(";")
		}
		p.end()
	}
	p.depth--
}

// part writes what is inside of a statement behind a line of it.
func (p *printer) part(at int) {
	p.end()
	p.block(at)
}

func (p *printer) statement(n api.Node) {
	switch n.Kind {
	case api.StVar:
		p.put("VAR", n.Name, ":")
		p.typ(n.Kids[0])
		p.put(":=")
		p.expr(n.Kids[1])
	case api.StSet:
		p.expr(n.Kids[0])
		p.put(":=")
		p.expr(n.Kids[1])
	case api.StDo:
		p.expr(n.Kids[0])
	case api.StRaise:
		p.put("RAISE")
		p.qname(n.Unit, n.Name)
	case api.StIf:
		p.put("IF")
		p.branch(n)
	case api.StWhile:
		p.guarded("WHILE", n)
	case api.StLock:
		p.guarded("LOCK", n)
	case api.StTry:
		p.put("TRY")
		p.part(n.Kids[0])
		p.put("EXCEPT")
		p.end()
		p.alternatives(n.Kids[1:])
	case api.StFinally:
		p.put("TRY")
		p.part(n.Kids[0])
		p.put("FINALLY")
		p.part(n.Kids[1])
		p.put("END")
	case api.StCase:
		p.put("TYPECASE")
		p.expr(n.Kids[0])
		p.put("OF")
		p.end()
		p.alternatives(n.Kids[1:])
	default:
		p.wordStatement(n)
	}
}

// wordStatement writes a word, and expressions behind it.
func (p *printer) wordStatement(n api.Node) {
	switch n.Kind {
	case api.StReturn:
		p.put("RETURN")
	case api.StPut:
		p.put("PUT")
	case api.StJoin:
		p.put("JOIN")
	case api.StWait:
		p.put("WAIT")
	case api.StSignal:
		p.put("SIGNAL")
	case api.StAll:
		p.put("ALL")
	case api.StAlert:
		p.put("ALERT")
	}
	separate(&p.writer, ",", n.Kids, p.expr)
}

// branch writes an IF behind that word: another one that is alone in the block of ELSE is an ELSIF.
func (p *printer) branch(n api.Node) {
	p.expr(n.Kids[0])
	p.put("THEN")
	p.part(n.Kids[1])
	if len(n.Kids) < 3 {
		p.put("END")
		return
	}
	others := p.nodes[n.Kids[2]].Kids
	if len(others) == 1 && p.nodes[others[0]].Kind == api.StIf {
		p.put("ELSIF")
		p.branch(p.nodes[others[0]])
		return
	}
	p.put("ELSE")
	p.part(n.Kids[2])
	p.put("END")
}

func (p *printer) guarded(word string, n api.Node) {
	p.put(word)
	p.expr(n.Kids[0])
	p.put("DO")
	p.part(n.Kids[1])
	p.put("END")
}

// alternatives writes handlers, or arms, up to the END.
func (p *printer) alternatives(kids []int) {
	for _, kid := range kids {
		n := p.nodes[kid]
		switch {
		case len(n.Kids) == 2:
			p.put("|")
			p.arm(n)
			p.put("=>")
		case n.Name != "":
			p.put("|")
			p.qname(n.Unit, n.Name)
			p.put("=>")
		default:
			p.put("ELSE")
		}
		p.part(n.Kids[len(n.Kids)-1])
	}
	p.put("END")
}

// arm writes the type of an arm, and its name with a blank ahead of it, even if a name is the last word of the type.
func (p *printer) arm(n api.Node) {
	p.typ(n.Kids[0])
	if n.Var != "" {
		p.putApart("(")
		p.put(n.Var, ")")
	}
}
