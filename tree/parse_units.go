package tree

import "trestle/api"

// placed is a unit, and the line of its first token.
type placed struct {
	api.Unit
	line int
}

// declReader reads a declaration between its first word and the ";" at its end.
type declReader = func(*parser) api.Decl

func declReaders() map[string]declReader {
	return map[string]declReader{
		"CONST":     (*parser).constant,
		"TYPE":      (*parser).typeDecl,
		"VAR":       (*parser).global,
		"EXCEPTION": (*parser).exceptionDecl,
		"PROCEDURE": (*parser).procedure,
		"REVEAL":    (*parser).revelation,
	}
}

// units reads units up to the end of the source.
func (p *parser) units() []placed {
	var units []placed
	for !p.done() {
		line := p.next().Line
		units = append(units, placed{p.unit(), line})
	}
	return units
}

func (p *parser) unit() api.Unit {
	var u api.Unit
	u.Unsafe = p.take("UNSAFE")
	u.Generic = p.take("GENERIC")
	u.Kind = p.unitKind()
	u.Name = p.name()
	if u.Generic {
		u.Formals = p.bracketed()
	}
	if u.Kind == api.UnModule && p.take("EXPORTS") {
		u.Exports = p.names()
	}
	if !u.Generic && p.take("=") {
		u.Of = p.name()
		u.Actuals = p.bracketed()
	} else {
		p.need(";")
		p.inside(&u)
	}
	p.again(u.Name)
	p.need(".")
	return u
}

func (p *parser) unitKind() uint8 {
	if p.take("INTERFACE") {
		return api.UnInterface
	}
	p.need("MODULE")
	return api.UnModule
}

// bracketed reads names in brackets.
func (p *parser) bracketed() []string {
	p.need("(")
	names := p.names()
	p.need(")")
	return names
}

// inside reads what stands between the first ";" of a unit and the END of it.
func (p *parser) inside(u *api.Unit) {
	for p.take("IMPORT") {
		names := p.names()
		u.Imports = append(u.Imports, names...)
		p.need(";")
	}
	p.kind = u.Kind
	p.qualifiers = map[string]bool{}
	for _, names := range [3][]string{u.Imports, u.Exports, u.Formals} {
		for _, name := range names {
			p.qualifiers[name] = true
		}
	}
	for p.decls[p.next().Text] != nil {
		read := p.decls[p.skip()]
		u.Decls = append(u.Decls, read(p))
		p.need(";")
	}
	if u.Kind == api.UnModule {
		u.Body = p.alone(p.body)
	}
}

// body reads the block of a module, which may be left out.
func (p *parser) body() int {
	if p.take("BEGIN") {
		return p.block()
	}
	return p.add(api.Node{Kind: api.StSeq})
}

func (p *parser) constant() api.Decl {
	d := api.Decl{Kind: api.DcConst, Name: p.name()}
	p.need("=")
	d.Nodes = p.alone(p.expr)
	return d
}

func (p *parser) typeDecl() api.Decl {
	d := api.Decl{Kind: api.DcType, Name: p.name()}
	if !p.take("=") {
		p.need("<:")
		d.Kind = api.DcOpaque
	}
	d.Nodes = p.alone(p.typ)
	return d
}

func (p *parser) global() api.Decl {
	d := api.Decl{Kind: api.DcVar, Name: p.name()}
	p.need(":")
	d.Nodes = p.alone(p.typ)
	if p.take(":=") {
		d.Body = p.alone(p.expr)
	}
	return d
}

func (p *parser) exceptionDecl() api.Decl {
	return api.Decl{Kind: api.DcExcept, Name: p.name()}
}

func (p *parser) procedure() api.Decl {
	d := api.Decl{Kind: api.DcProc, Name: p.name()}
	d.Nodes = p.alone(p.signature)
	if p.kind == api.UnModule {
		p.need("=")
		p.need("BEGIN")
		d.Body = p.alone(p.block)
		p.again(d.Name)
	}
	return d
}

func (p *parser) revelation() api.Decl {
	of := p.qname(0)
	d := api.Decl{Kind: api.DcReveal, Unit: of.Unit, Name: of.Name}
	if p.take("=") {
		d.N = 1
	} else {
		p.need("<:")
	}
	d.Nodes = p.alone(p.typ)
	return d
}
