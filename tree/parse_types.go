package tree

import "trestle/api"

// typ reads a type.
func (p *parser) typ() int {
	switch {
	case p.seesName():
		return p.perhapsObject(p.add(p.qname(api.TyName)))
	case isPlain(p.next().Text):
		return p.plain()
	case p.take("["):
		return p.rangeType()
	case p.sees("BRANDED"), p.sees("REF"):
		return p.reference()
	}
	panic(p.misfit())
}

// isPlain reports whether a text is a word that is a type.
func isPlain(text string) bool {
	switch text {
	case "INTEGER", "BOOLEAN", "REFANY", "NULL", "ROOT", "MUTEX", "CONDITION":
		return true
	}
	return false
}

func (p *parser) plain() int {
	n := api.Node{Kind: api.TyPlain, Name: p.skip()}
	at := p.add(n)
	if isSuper(n) {
		return p.perhapsObject(at)
	}
	return at
}

func (p *parser) rangeType() int {
	low := p.expr()
	p.need("..")
	high := p.expr()
	p.need("]")
	return p.add(api.Node{Kind: api.TyRange}, low, high)
}

// branded reads a brand, if there is one, into a node of a kind.
func (p *parser) branded(kind uint8) api.Node {
	n := api.Node{Kind: kind}
	if p.take("BRANDED") {
		text := p.some(api.TokText)
		n.N = 1
		n.Name = text[1 : len(text)-1]
	}
	return n
}

func (p *parser) reference() int {
	n := p.branded(api.TyRef)
	p.need("REF")
	switch {
	case p.take("RECORD"):
		n.Kind = api.TyRecord
		fields := p.members(p.field)
		p.need("END")
		return p.add(n, fields...)
	case p.take("ARRAY"):
		n.Kind = api.TyArray
		p.need("OF")
	}
	return p.add(n, p.typ())
}

// perhapsObject reads the rest of an object type, if what was read is its super type.
func (p *parser) perhapsObject(super int) int {
	if !p.sees("BRANDED") && !p.sees("OBJECT") {
		return super
	}
	n := p.branded(api.TyObject)
	p.need("OBJECT")
	kids := []int{super}
	kids = append(kids, p.members(p.field)...)
	if p.take("METHODS") {
		kids = append(kids, p.members(p.method)...)
	}
	if p.take("OVERRIDES") {
		kids = append(kids, p.members(p.override)...)
	}
	p.need("END")
	return p.add(n, kids...)
}

// members reads as many members as there are: a name begins each, and a ";" is behind it.
func (p *parser) members(member func() int) []int {
	var kids []int
	for p.seesName() {
		kids = append(kids, member())
		p.need(";")
	}
	return kids
}

func (p *parser) field() int { return p.typed(api.NdField) }

func (p *parser) param() int { return p.typed(api.NdParam) }

// typed reads a name with its type into a node of a kind.
func (p *parser) typed(kind uint8) int {
	n := api.Node{Kind: kind, Name: p.name()}
	p.need(":")
	return p.add(n, p.typ())
}

func (p *parser) method() int {
	n := api.Node{Kind: api.NdMethod, Name: p.name()}
	kids := []int{p.signature()}
	if p.take(":=") {
		kids = append(kids, p.add(p.qname(api.ExName)))
	}
	return p.add(n, kids...)
}

func (p *parser) override() int {
	n := api.Node{Kind: api.NdOver, Name: p.name()}
	p.need(":=")
	return p.add(n, p.add(p.qname(api.ExName)))
}

// signature reads the result alone: it stands ahead of the exceptions, but its nodes stand behind theirs.
func (p *parser) signature() int {
	var kids []int
	p.need("(")
	if !p.take(")") {
		kids = list(p, ";", p.param)
		p.need(")")
	}
	var result []api.Node
	if p.take(":") {
		result = p.alone(p.typ)
	}
	if p.take("RAISES") {
		kids = append(kids, p.raises()...)
	}
	if len(result) > 0 {
		kids = append(kids, p.graft(result))
	}
	return p.add(api.Node{Kind: api.NdSig}, kids...)
}

func (p *parser) raises() []int {
	p.need("{")
	if p.take("}") {
		return nil
	}
	kids := list(p, ",", p.raise)
	p.need("}")
	return kids
}

func (p *parser) raise() int { return p.add(p.exception(api.NdRaise)) }
