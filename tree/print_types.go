package tree

import "trestle/api"

func (p *printer) typ(at int) {
	n := p.nodes[at]
	switch n.Kind {
	case api.TyName:
		p.qname(n.Unit, n.Name)
	case api.TyPlain:
		p.put(n.Name)
	case api.TyRange:
		p.put("[")
		p.expr(n.Kids[0])
		p.put("..")
		p.expr(n.Kids[1])
		p.put("]")
	case api.TyRef:
		p.brand(n)
		p.put("REF")
		p.typ(n.Kids[0])
	case api.TyArray:
		p.brand(n)
		p.put("REF", "ARRAY", "OF")
		p.typ(n.Kids[0])
	case api.TyRecord:
		p.brand(n)
		p.put("REF", "RECORD")
		p.members(n.Kids)
		p.put("END")
	case api.TyObject:
		p.object(n)
	}
}

func (p *printer) brand(n api.Node) {
	if n.N == 1 {
		p.put("BRANDED", `"`+n.Name+`"`)
	}
}

func (p *printer) object(n api.Node) {
	p.typ(n.Kids[0])
	p.brand(n)
	p.put("OBJECT")
	own, rest := p.those(n.Kids[1:], api.NdField)
	methods, overrides := p.those(rest, api.NdMethod)
	p.members(own)
	if len(methods) > 0 {
		p.put("METHODS")
		p.members(methods)
	}
	if len(overrides) > 0 {
		p.put("OVERRIDES")
		p.members(overrides)
	}
	p.put("END")
}

// those divides kids into the first ones, which are of a kind, and the rest.
func (p *printer) those(kids []int, kind uint8) (first, rest []int) {
	n := 0
	for n < len(kids) && p.nodes[kids[n]].Kind == kind {
		n++
	}
	return kids[:n], kids[n:]
}

// members writes members, each with the ";" behind it.
func (p *printer) members(kids []int) {
	for _, kid := range kids {
		p.member(p.nodes[kid])
		p.put(";")
	}
}

func (p *printer) member(n api.Node) {
	p.put(n.Name)
	switch n.Kind {
	case api.NdField:
		p.put(":")
		p.typ(n.Kids[0])
	case api.NdMethod:
		p.signature(n.Kids[0])
		if len(n.Kids) > 1 {
			p.put(":=")
			p.expr(n.Kids[1])
		}
	case api.NdOver:
		p.put(":=")
		p.expr(n.Kids[0])
	}
}

// signature writes the result, which stands last in the tree, ahead of the exceptions.
func (p *printer) signature(at int) {
	params, rest := p.those(p.nodes[at].Kids, api.NdParam)
	raises, result := p.those(rest, api.NdRaise)
	p.put("(")
	separate(&p.writer, ";", params, p.param)
	p.put(")")
	if len(result) > 0 {
		p.put(":")
		p.typ(result[0])
	}
	if len(raises) > 0 {
		p.put("RAISES", "{")
		separate(&p.writer, ",", raises, p.raise)
		p.put("}")
	}
}

func (p *printer) param(at int) {
	n := p.nodes[at]
	p.put(n.Name, ":")
	p.typ(n.Kids[0])
}

func (p *printer) raise(at int) {
	n := p.nodes[at]
	p.qname(n.Unit, n.Name)
}
