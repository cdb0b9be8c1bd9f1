package world

import (
	"trestle/api"
	"trestle/types"
)

// makeGraph is number 7: it makes the graph, if there are not too many types.
func (l *library) makeGraph() {
	for d := range l.decls() {
		if d.isA(api.DcOpaque) {
			d.opaque = len(l.owners)
			l.owners = append(l.owners, d)
		}
		d.source = numbered(d.in, d.Nodes, len(l.owners))
		for range d.source.index {
			l.owners = append(l.owners, d)
		}
	}
	if len(l.owners) > api.MaxTypes {
		giveUp(api.ErrLimit, 0)
	}
	for d := range l.decls() {
		if d.isA(api.DcOpaque) {
			l.graph = append(l.graph, api.Ty{Kind: api.KdOpaque, Opaque: d.symbol, Super: l.refersTo(d.source, d.source.root())})
		}
		l.graph = append(l.graph, l.made(d.source)...)
	}
}

// made returns the types that stand in nodes.
func (l *library) made(s source) api.Graph {
	var g api.Graph
	for _, n := range typesIn(s.nodes) {
		g = append(g, l.typ(s, n))
	}
	return g
}

// typ returns the type of a node.
func (l *library) typ(s source, n api.Node) api.Ty {
	t := api.Ty{Kind: kindOf(n)}
	switch n.Kind {
	case api.TyRange:
		low, _ := l.valueAt(s, n.Kids[0])
		high, _ := l.valueAt(s, n.Kids[1])
		t.Low, t.High = low.N, high.N
	case api.TyRef, api.TyArray:
		t.Parts = []api.Part{{Type: l.refersTo(s, n.Kids[0])}}
	case api.TyObject:
		t.Super = l.refersTo(s, n.Kids[0])
	}
	if n.Kind != api.TyPlain {
		t.Branded, t.Brand = n.N == 1, n.Name
	}
	for _, kid := range n.Kids {
		l.addTo(&t, s, s.nodes[kid])
	}
	return t
}

// kindOf returns the Kind of the type of a node.
func kindOf(n api.Node) uint8 {
	if n.Kind == api.TyPlain {
		return map[string]uint8{
			"INTEGER":   api.KdInteger,
			"BOOLEAN":   api.KdBoolean,
			"REFANY":    api.KdAny,
			"NULL":      api.KdNull,
			"ROOT":      api.KdRoot,
			"MUTEX":     api.KdMutex,
			"CONDITION": api.KdCondition,
		}[n.Name]
	}
	return map[uint8]uint8{
		api.TyRange:  api.KdRange,
		api.TyRef:    api.KdRef,
		api.TyRecord: api.KdRecord,
		api.TyArray:  api.KdArray,
		api.TyObject: api.KdObject,
	}[n.Kind]
}

// addTo adds what a node is to the lists of a type, if it is a field, a method or an override.
func (l *library) addTo(t *api.Ty, s source, n api.Node) {
	switch n.Kind {
	case api.NdField:
		t.Parts = append(t.Parts, api.Part{Name: n.Name, Type: l.refersTo(s, n.Kids[0])})
	case api.NdMethod:
		t.Methods = append(t.Methods, api.Method{Name: n.Name, Sig: l.sig(s, n.Kids[0]), Proc: l.procedure(s, n)})
	case api.NdOver:
		t.Overs = append(t.Overs, api.Over{Name: n.Name, Proc: l.procedure(s, n)})
	}
}

// procedure returns the symbol of the procedure of a method or an override, if it has one.
func (l *library) procedure(s source, n api.Node) string {
	if p, ok := procedureOf(s, n); ok {
		return l.meant(s.member, p.Unit, p.Name).symbol
	}
	return ""
}

// checkGraph is number 8: the types are such as there can be, and so are those that are revealed.
func (l *library) checkGraph() {
	refused := map[int]bool{}
	// What leads back to itself is told by Check only if all types are right in themselves, but it may stand ahead of those that are not.
	for _, g := range [...]api.Graph{l.graph, supersOf(l.graph)} {
		if i, e := types.Check(g); e != api.OK {
			refused[l.owners[i].place()] = true
		}
	}
	for d := range l.decls() {
		if refused[d.place()] || d.isA(api.DcReveal) && !l.mayBeRevealed(d) {
			giveUp(api.ErrType, d.place())
		}
	}
}

// supersOf returns a graph of which nothing is left but Supers.
func supersOf(g api.Graph) api.Graph {
	var bare api.Graph
	for _, t := range g {
		if t.Kind == api.KdObject || t.Kind == api.KdOpaque {
			bare = append(bare, api.Ty{Kind: api.KdObject, Super: t.Super})
		} else {
			bare = append(bare, api.Ty{Kind: api.KdRoot})
		}
	}
	return bare
}

// mayBeRevealed reports whether an opaque type may be revealed to be, or to lie below, the type of a declaration.
func (l *library) mayBeRevealed(d *decl) bool {
	t := l.graph[l.typeOf(d)]
	if d.N == 1 {
		return t.Branded
	}
	switch t.Kind {
	case api.KdInteger, api.KdBoolean, api.KdRange, api.KdNull:
		return false
	}
	return true
}

// copied returns a graph that shares no memory with another one.
func copied(g api.Graph) api.Graph {
	c, _ := types.Join(g, nil)
	return c
}
