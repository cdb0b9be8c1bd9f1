package tree

import (
	"slices"

	"trestle/api"
	"trestle/scan"
)

// checker tells what is well-formed by the table of rows.
type checker struct{ rows [51]row }

func newChecker() *checker { return &checker{rows()} }

// tree reports whether nodes are a tree whose root has a property.
func (c *checker) tree(l []api.Node, root func(api.Node) bool) bool {
	if len(l) == 0 || len(l) > api.MaxNodes || !root(l[len(l)-1]) || !inPostorder(l) {
		return false
	}
	for _, n := range l {
		if !c.node(l, n) {
			return false
		}
	}
	return true
}

// inPostorder reports whether nodes are one tree in postorder. It keeps the roots of the trees that no node has as a kid yet: the next node has the last ones of them.
func inPostorder(l []api.Node) bool {
	var roots []int
	for i, n := range l {
		left := len(roots) - len(n.Kids)
		if left < 0 || !slices.Equal(roots[left:], n.Kids) {
			return false
		}
		roots = append(roots[:left], i)
	}
	return len(roots) == 1
}

// node reports whether a node, whose kids there are, is as a row says.
func (c *checker) node(l []api.Node, n api.Node) bool {
	var below []api.Node
	for _, kid := range n.Kids {
		below = append(below, l[kid])
	}
	f := fields{Name: n.Name, Unit: n.Unit, Var: n.Var, N: n.N, Type: n.Type}
	for _, row := range c.rows {
		if row.kind == n.Kind && row.fields(f) && row.kids(below) {
			return true
		}
	}
	return false
}

func (c *checker) typ(l []api.Node) bool { return c.tree(l, isType) }

func (c *checker) expr(l []api.Node) bool { return c.tree(l, isExpr) }

func (c *checker) block(l []api.Node) bool { return c.tree(l, is(api.StSeq)) }

// unit reports whether a unit is well-formed.
func (c *checker) unit(u api.Unit) bool {
	if u.Kind != api.UnInterface && u.Kind != api.UnModule || !scan.IsName(u.Name) {
		return false
	}
	if !areNames(u.Formals, api.MaxFormals) || !areNames(u.Actuals, api.MaxFormals) || !areNames(u.Exports, api.MaxImports) || !areNames(u.Imports, api.MaxImports) {
		return false
	}
	if hasTwice(u.Formals) || hasTwice(u.Exports) || hasTwice(u.Imports) {
		return false
	}
	if u.Generic != (len(u.Formals) > 0) || len(u.Exports) > 0 && (u.Generic || u.Kind == api.UnInterface) {
		return false
	}
	if u.Of != "" {
		return isInstance(u)
	}
	return len(u.Actuals) == 0 && c.inside(u)
}

// isInstance checks what an instance has and what it has not.
func isInstance(u api.Unit) bool {
	return scan.IsName(u.Of) && len(u.Actuals) > 0 && !u.Generic && len(u.Imports)+len(u.Decls)+len(u.Body) == 0
}

// inside checks the declarations and the body of what is no instance.
func (c *checker) inside(u api.Unit) bool {
	if len(u.Decls) > api.MaxDecls {
		return false
	}
	for _, d := range u.Decls {
		if !c.decl(d, u.Kind) {
			return false
		}
	}
	if u.Kind == api.UnModule {
		return c.block(u.Body)
	}
	return len(u.Body) == 0
}

// decl reports whether a declaration is well-formed in a unit of a kind.
func (c *checker) decl(d api.Decl, kind uint8) bool {
	if d.Kind == api.DcReveal {
		return isQname(d.Unit, d.Name) && (d.N == 0 || d.N == 1) && c.typ(d.Nodes) && len(d.Body) == 0
	}
	if d.Unit != "" || d.N != 0 || !scan.IsName(d.Name) {
		return false
	}
	module := kind == api.UnModule
	nothing := len(d.Body) == 0
	switch d.Kind {
	case api.DcConst:
		return c.expr(d.Nodes) && nothing
	case api.DcType:
		return c.typ(d.Nodes) && nothing
	case api.DcOpaque:
		return !module && c.tree(d.Nodes, isBound) && nothing
	case api.DcVar:
		return c.typ(d.Nodes) && (nothing || c.expr(d.Body))
	case api.DcExcept:
		return len(d.Nodes) == 0 && nothing
	case api.DcProc:
		return c.tree(d.Nodes, is(api.NdSig)) && (module && c.block(d.Body) || !module && nothing)
	}
	return false
}

// isBound tells what an opaque type can be declared to lie below.
func isBound(n api.Node) bool {
	return isSuper(n) || n.Kind == api.TyPlain && n.Name == "REFANY"
}

// areNames reports whether a list has names alone, and not too many.
func areNames(l []string, most int) bool {
	for _, name := range l {
		if !scan.IsName(name) {
			return false
		}
	}
	return len(l) <= most
}

func hasTwice(l []string) bool {
	sorted := slices.Sorted(slices.Values(l))
	return len(slices.Compact(sorted)) < len(l)
}
