package types

import (
	"slices"

	"trestle/api"
)

// plain is what a type has beside its lists and its indices.
type plain struct {
	kind          uint8
	low, high     int
	branded       bool
	brand, opaque string
}

func plainOf(t api.Ty) plain {
	return plain{t.Kind, t.Low, t.High, t.Branded, t.Brand, t.Opaque}
}

// isSame reports whether two types are equal, with their indices.
func isSame(a, b api.Ty) bool {
	return areAlike(a, b, func(i, j int) bool { return i == j })
}

// agree reports whether two types agree at once.
func agree(a, b api.Ty) bool {
	return areAlike(a, b, func(i, j int) bool { return (i == -1) == (j == -1) })
}

// areAlike reports whether all in two types is the same, where the indices, one beside the other, are held together by a function.
func areAlike(a, b api.Ty, fits func(i, j int) bool) bool {
	partsFit := func(p, q api.Part) bool { return p.Name == q.Name && fits(p.Type, q.Type) }
	methodsFit := func(m, n api.Method) bool {
		return m.Name == n.Name && m.Proc == n.Proc && slices.EqualFunc(m.Sig.Args, n.Sig.Args, fits) &&
			fits(m.Sig.Result, n.Sig.Result) && slices.Equal(m.Sig.Raises, n.Sig.Raises)
	}
	return plainOf(a) == plainOf(b) && fits(a.Super, b.Super) && slices.EqualFunc(a.Parts, b.Parts, partsFit) &&
		slices.EqualFunc(a.Methods, b.Methods, methodsFit) && slices.Equal(a.Overs, b.Overs)
}

// classes returns for each type the least one that is the same: what agrees at once is divided until the references of all in a class are in the same classes.
func classes(g api.Graph) []int {
	class := leasts(g, agree)
	var types []int
	var below [][]int
	for i := range g {
		types = append(types, i)
		below = append(below, references(&g[i]))
	}
	for {
		together := func(i, j int) bool { return class[i] == class[j] }
		finer := leasts(types, func(i, j int) bool {
			return together(i, j) && slices.EqualFunc(below[i], below[j], together)
		})
		if slices.Equal(class, finer) {
			return class
		}
		class = finer
	}
}

// leasts returns for each item the index of the first one that is the same by a function.
func leasts[T any](items []T, same func(a, b T) bool) []int {
	var firsts, found []int
	for i, item := range items {
		at := slices.IndexFunc(firsts, func(first int) bool { return same(items[first], item) })
		if at < 0 {
			at = len(firsts)
			firsts = append(firsts, i)
		}
		found = append(found, firsts[at])
	}
	return found
}

// isClosed reports whether the types of pairs agree at once, and their references are pairs of the list.
func isClosed(g api.Graph, pairs [][2]int) bool {
	listed := map[[2]int]bool{}
	for _, pair := range pairs {
		listed[pair] = true
	}
	for _, pair := range pairs {
		if !isIndex(g, pair[0]) || !isIndex(g, pair[1]) || !agree(g[pair[0]], g[pair[1]]) {
			return false
		}
		for _, next := range besides(g, pair) {
			if !listed[next] {
				return false
			}
		}
	}
	return true
}
