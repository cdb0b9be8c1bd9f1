package tree

import "trestle/api"

// printer writes well-formed trees and units. What stands in a line of its own is ended by who asked for it, as a ";" may have to stand behind it.
type printer struct {
	writer
	nodes []api.Node
}

// unit writes a unit, with all its lines.
func (p *printer) unit(u api.Unit) {
	if u.Unsafe {
		p.put("UNSAFE")
	}
	if u.Generic {
		p.put("GENERIC")
	}
	p.put(unitWord(u.Kind), u.Name)
	if u.Generic {
		p.bracketed(u.Formals)
	}
	if len(u.Exports) > 0 {
		p.put("EXPORTS")
		p.names(u.Exports)
	}
	if u.Of == "" {
		p.inside(u)
	} else {
		p.put("=", u.Of)
		p.bracketed(u.Actuals)
	}
	p.put("END", u.Name, ".")
	p.end()
}

func unitWord(kind uint8) string {
	if kind == api.UnInterface {
		return "INTERFACE"
	}
	return "MODULE"
}

func (p *printer) bracketed(names []string) {
	p.put("(")
	p.names(names)
	p.put(")")
}

func (p *printer) names(l []string) {
	separate(&p.writer, ",", l, func(name string) { p.put(name) })
}

// inside writes the lines of a unit from the ";" of the first one on up to the END.
func (p *printer) inside(u api.Unit) {
	p.close()
	if len(u.Imports) > 0 {
		p.put("IMPORT")
		p.names(u.Imports)
		p.close()
	}
	for _, d := range u.Decls {
		p.decl(d)
		p.close()
	}
	if u.Kind == api.UnModule && len(u.Body) > 1 {
		p.put("BEGIN")
		p.end()
		p.root(u.Body, p.block)
	}
}

// close ends a line with a ";".
func (p *printer) close() {
	p.put(";")
	p.end()
}

// root writes a tree by a function for its root.
func (p *printer) root(tree []api.Node, write func(int)) {
	p.nodes = tree
	write(len(tree) - 1)
}

// decl writes a declaration up to what stands ahead of its last ";".
func (p *printer) decl(d api.Decl) {
	switch d.Kind {
	case api.DcConst:
		p.put("CONST", d.Name, "=")
		p.root(d.Nodes, p.expr)
	case api.DcType:
		p.put("TYPE", d.Name, "=")
		p.root(d.Nodes, p.typ)
	case api.DcOpaque:
		p.put("TYPE", d.Name, "<:")
		p.root(d.Nodes, p.typ)
	case api.DcVar:
		p.put("VAR", d.Name, ":")
		p.root(d.Nodes, p.typ)
		if len(d.Body) > 0 {
			p.put(":=")
			p.root(d.Body, p.expr)
		}
	case api.DcExcept:
		p.put("EXCEPTION", d.Name)
	case api.DcProc:
		p.procedure(d)
	case api.DcReveal:
		p.put("REVEAL")
		p.qname(d.Unit, d.Name)
		p.put(revealSign(d.N))
		p.root(d.Nodes, p.typ)
	}
}

func revealSign(full int) string {
	if full == 1 {
		return "="
	}
	return "<:"
}

// procedure writes a heading, and, in lines of their own, the body if there is one.
func (p *printer) procedure(d api.Decl) {
	p.put("PROCEDURE", d.Name)
	p.root(d.Nodes, p.signature)
	if len(d.Body) == 0 {
		return
	}
	p.put("=")
	p.end()
	p.put("BEGIN")
	p.end()
	p.root(d.Body, p.block)
	p.put("END", d.Name)
}

// qname writes a name, perhaps with a qualifier.
func (p *printer) qname(unit, name string) {
	if unit != "" {
		p.put(unit, ".")
	}
	p.put(name)
}
