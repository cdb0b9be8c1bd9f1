package tree

import (
	"slices"

	"trestle/api"
)

// copied returns a copy of a unit that shares no memory with it, and in which a function was applied to each Unit of a node or a declaration.
func copied(u api.Unit, qualifier func(string) string) api.Unit {
	u.Formals = slices.Clone(u.Formals)
	u.Actuals = slices.Clone(u.Actuals)
	u.Exports = slices.Clone(u.Exports)
	u.Imports = slices.Clone(u.Imports)
	u.Decls = slices.Clone(u.Decls)
	for i := range u.Decls {
		d := &u.Decls[i]
		d.Unit = qualifier(d.Unit)
		d.Nodes = copiedNodes(d.Nodes, qualifier)
		d.Body = copiedNodes(d.Body, qualifier)
	}
	u.Body = copiedNodes(u.Body, qualifier)
	return u
}

func copiedNodes(l []api.Node, qualifier func(string) string) []api.Node {
	l = slices.Clone(l)
	for i := range l {
		l[i].Unit = qualifier(l[i].Unit)
		l[i].Kids = slices.Clone(l[i].Kids)
	}
	return l
}
