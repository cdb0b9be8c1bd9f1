package types

import (
	"iter"
	"slices"

	"trestle/api"
)

func isIndex(g api.Graph, i int) bool { return 0 <= i && i < len(g) }

// places yields where the references of a type stand in it, in their order.
func places(t *api.Ty) iter.Seq[*int] {
	return func(yield func(*int) bool) {
		if hasSuper(t.Kind) && !yield(&t.Super) {
			return
		}
		for i := range t.Parts {
			if !yield(&t.Parts[i].Type) {
				return
			}
		}
		for i := range t.Methods {
			if !yieldSig(&t.Methods[i].Sig, yield) {
				return
			}
		}
	}
}

func yieldSig(s *api.Sig, yield func(*int) bool) bool {
	for i := range s.Args {
		if !yield(&s.Args[i]) {
			return false
		}
	}
	return s.Result == -1 || yield(&s.Result)
}

// references returns the references of a type.
func references(t *api.Ty) []int {
	var list []int
	for at := range places(t) {
		list = append(list, *at)
	}
	return list
}

// besides yields the references of two types that agree at once, one beside the other, with their numbers.
func besides(g api.Graph, pair [2]int) iter.Seq2[int, [2]int] {
	return func(yield func(int, [2]int) bool) {
		others := references(&g[pair[1]])
		for k, r := range references(&g[pair[0]]) {
			if !yield(k, [2]int{r, others[k]}) {
				return
			}
		}
	}
}

// renumbered returns a copy of a type, whose references are changed by a function.
func renumbered(t api.Ty, to func(int) int) api.Ty {
	t.Parts = slices.Clone(t.Parts)
	t.Overs = slices.Clone(t.Overs)
	t.Methods = slices.Clone(t.Methods)
	for i := range t.Methods {
		s := &t.Methods[i].Sig
		s.Args = slices.Clone(s.Args)
		s.Raises = slices.Clone(s.Raises)
	}
	for at := range places(&t) {
		*at = to(*at)
	}
	return t
}

// picked returns the graph of chosen types of another one, whose indices have become others.
func picked(g api.Graph, chosen, to []int) api.Graph {
	var smaller api.Graph
	for _, i := range chosen {
		smaller = append(smaller, renumbered(g[i], func(i int) int { return to[i] }))
	}
	return smaller
}

// reachedFrom returns the types to which ways lead from a type, in the order in which they are come upon, and the number that each of them has in this order. A function tells which type stands for one.
func reachedFrom(g api.Graph, a int, standsFor func(int) int) ([]int, map[int]int) {
	reached := []int{standsFor(a)}
	number := map[int]int{reached[0]: 0}
	for at := 0; at < len(reached); at++ {
		for r := range places(&g[reached[at]]) {
			next := standsFor(*r)
			if _, ok := number[next]; !ok {
				number[next] = len(reached)
				reached = append(reached, next)
			}
		}
	}
	return reached, number
}
