package tree

import (
	"slices"

	"trestle/api"
)

// builder is a tree that grows: each node is added behind its kids.
type builder struct{ nodes []api.Node }

// add adds a node above kids, and returns its index.
func (b *builder) add(n api.Node, kids ...int) int {
	n.Kids = slices.Clone(kids)
	b.nodes = append(b.nodes, n)
	return len(b.nodes) - 1
}

// alone returns the nodes that a function adds as a tree of its own.
func (b *builder) alone(grow func() int) []api.Node {
	around := b.nodes
	b.nodes = nil
	grow()
	tree := b.nodes
	b.nodes = around
	return tree
}

// graft adds the nodes of a tree that was made alone, and returns the index of its root.
func (b *builder) graft(tree []api.Node) int {
	ahead := len(b.nodes)
	for _, n := range tree {
		var kids []int
		for _, kid := range n.Kids {
			kids = append(kids, ahead+kid)
		}
		b.add(n, kids...)
	}
	return len(b.nodes) - 1
}
