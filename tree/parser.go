package tree

import (
	"trestle/api"
	"trestle/scan"
)

// parser reads what the grammar makes. It gives up, by a panic with a fault, at the first token that does not fit: no function moves over a token before it knows that it fits.
type parser struct {
	tokens
	builder
	decls      map[string]declReader
	statements map[string]reader
	primaries  map[string]reader

	// What the unit that is read says for what stands inside.
	kind       uint8
	qualifiers map[string]bool
}

// reader reads something behind its first word or sign, and returns the index of its node.
type reader = func(*parser) int

// attempt reads the whole of a source by a function, or returns the fault with which the parser gave up.
func attempt[T any](src string, read func(*parser) T) (result T, f api.Fault) {
	scanned, f := scan.Scan(src)
	if f.Err != api.OK {
		return result, f
	}
	p := &parser{
		tokens:     tokens{list: scanned},
		decls:      declReaders(),
		statements: statementReaders(),
		primaries:  primaryReaders(),
	}
	defer func() {
		if gaveUp, ok := recover().(api.Fault); ok {
			f = gaveUp
		}
	}()
	// What is found is no result before all of the source was read.
	found := read(p)
	if !p.done() {
		panic(p.misfit())
	}
	return found, api.Fault{}
}

// list reads one or more items with a sign between them.
func list[T any](p *parser, sign string, item func() T) []T {
	items := []T{item()}
	for p.take(sign) {
		items = append(items, item())
	}
	return items
}

// names reads names with commas between them.
func (p *parser) names() []string { return list(p, ",", p.name) }

// again reads a name that stood before, behind END.
func (p *parser) again(name string) {
	p.need("END")
	p.need(name)
}

// qname reads a name, perhaps with a qualifier, into a node of a kind.
func (p *parser) qname(kind uint8) api.Node {
	n := api.Node{Kind: kind, Name: p.name()}
	if p.take(".") {
		n.Unit = n.Name
		n.Name = p.name()
	}
	return n
}

// exception reads the name of an exception into a node of a kind.
func (p *parser) exception(kind uint8) api.Node {
	if p.take(alerted) {
		return api.Node{Kind: kind, Name: alerted}
	}
	return p.qname(kind)
}
