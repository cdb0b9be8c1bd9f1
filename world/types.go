package world

import (
	"iter"
	"slices"

	"trestle/api"
)

// source is the nodes of a declaration, or of an expression alone, as they stand in a unit, and where the types among them stand in a graph.
type source struct {
	*member
	nodes []api.Node
	index map[int]int
}

// root returns the node that has all others below it.
func (s source) root() int { return len(s.nodes) - 1 }

// typesIn yields the nodes that are types of a graph, with their places.
func typesIn(nodes []api.Node) iter.Seq2[int, api.Node] {
	return func(yield func(int, api.Node) bool) {
		for i, n := range nodes {
			if api.TyPlain <= n.Kind && n.Kind <= api.TyObject && !yield(i, n) {
				return
			}
		}
	}
}

// numbered returns nodes whose types stand in a graph one behind the other, from an index on.
func numbered(m *member, nodes []api.Node, from int) source {
	s := source{m, nodes, map[int]int{}}
	for i := range typesIn(nodes) {
		s.index[i] = from + len(s.index)
	}
	return s
}

// checkTypes is number 6: names in types mean what they should, and ranges are such.
func (l *library) checkTypes() {
	for d := range l.decls() {
		if e := l.typeFault(d); e != api.OK {
			giveUp(e, d.place())
		}
	}
}

func (l *library) typeFault(d *decl) api.Errno {
	switch {
	case d.isA(api.DcConst):
		return api.OK
	case !l.namesFit(d.source) || d.isA(api.DcReveal) && !l.revealed(d).isA(api.DcOpaque):
		return api.ErrName
	case reached(d, l.aliased)[d]:
		return api.ErrCycle
	case !l.rangesFit(d.source):
		return api.ErrConst
	}
	return api.OK
}

// revealed returns what the name that a revelation reveals means.
func (l *library) revealed(d *decl) *decl { return l.meant(d.in, d.Unit, d.Name) }

// aliased returns the type that another one is, if that is nothing but a name.
func (l *library) aliased(d *decl) []*decl {
	if !d.isA(api.DcType) {
		return nil
	}
	n := d.Nodes[d.source.root()]
	if t := l.meant(d.in, n.Unit, n.Name); n.Kind == api.TyName && t.isA(api.DcType) {
		return []*decl{t}
	}
	return nil
}

// namesFit reports whether all names in types and signatures mean what they should.
func (l *library) namesFit(s source) bool {
	for _, n := range s.nodes {
		meant := l.meant(s.member, n.Unit, n.Name)
		switch n.Kind {
		case api.TyName:
			if !meant.isA(api.DcType, api.DcOpaque) {
				return false
			}
		case api.NdRaise:
			if n.Name != alerted && !meant.isA(api.DcExcept) {
				return false
			}
		case api.NdMethod, api.NdOver:
			if p, ok := procedureOf(s, n); ok && !l.meant(s.member, p.Unit, p.Name).isA(api.DcProc) {
				return false
			}
		}
	}
	return true
}

// procedureOf returns the node that names the procedure of a method, or of an override, and whether there is one.
func procedureOf(s source, n api.Node) (api.Node, bool) {
	last := s.nodes[n.Kids[len(n.Kids)-1]]
	return last, last.Kind == api.ExName
}

// rangesFit reports whether all ranges go from an int to one that is not less.
func (l *library) rangesFit(s source) bool {
	for _, n := range typesIn(s.nodes) {
		if n.Kind != api.TyRange {
			continue
		}
		low, isLow := l.valueAt(s, n.Kids[0])
		high, isHigh := l.valueAt(s, n.Kids[1])
		if !isLow || !isHigh || low.Bool || high.Bool || low.N > high.N {
			return false
		}
	}
	return true
}

// typeOf returns the type of a declaration of a type or a variable.
func (l *library) typeOf(d *decl) int {
	if d.isA(api.DcOpaque) {
		return d.opaque
	}
	return l.refersTo(d.source, d.source.root())
}

// refersTo returns the type of the graph to which a node refers that is a type.
func (l *library) refersTo(s source, node int) int {
	for s.nodes[node].Kind == api.TyName {
		d := l.meant(s.member, s.nodes[node].Unit, s.nodes[node].Name)
		if d.isA(api.DcOpaque) {
			return d.opaque
		}
		s, node = d.source, d.source.root()
	}
	return s.index[node]
}

const alerted = "ALERTED"

// sig returns the signature of a node.
func (l *library) sig(s source, node int) api.Sig {
	sig := api.Sig{Result: -1}
	for _, kid := range s.nodes[node].Kids {
		switch n := s.nodes[kid]; n.Kind {
		case api.NdParam:
			sig.Args = append(sig.Args, l.refersTo(s, n.Kids[0]))
		case api.NdRaise:
			sig.Raises = append(sig.Raises, l.exception(s, n))
		default:
			sig.Result = l.refersTo(s, kid)
		}
	}
	slices.Sort(sig.Raises)
	sig.Raises = slices.Compact(sig.Raises)
	return sig
}

// exception returns the symbol of an exception.
func (l *library) exception(s source, n api.Node) string {
	if n.Name == alerted {
		return alerted
	}
	return l.meant(s.member, n.Unit, n.Name).symbol
}
