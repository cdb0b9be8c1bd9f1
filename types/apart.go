package types

import (
	"slices"

	"trestle/api"
)

// stride is how a search came upon a pair: from another one, by the references with a number.
type stride struct {
	from [2]int
	by   int
}

// tellApart returns the least of the shortest ways that tell a pair apart, the classes of which are not the same. Pairs are come upon in the order of the least ways to them, so that the first one that does not agree ends the search.
func tellApart(g api.Graph, class []int, first [2]int) []int {
	if !agree(g[first[0]], g[first[1]]) {
		return nil
	}
	came := map[[2]int]stride{first: {}}
	queue := [][2]int{first}
	last := first
search:
	for at := 0; at < len(queue); at++ {
		for k, next := range besides(g, queue[at]) {
			if _, ok := came[next]; ok || class[next[0]] == class[next[1]] {
				continue
			}
			came[next] = stride{queue[at], k}
			if !agree(g[next[0]], g[next[1]]) {
				last = next
				break search
			}
			queue = append(queue, next)
		}
	}
	return wayBack(came, first, last)
}

// wayBack returns the way from one pair to another one that a search found.
func wayBack(came map[[2]int]stride, first, last [2]int) []int {
	var way []int
	for at := last; at != first; at = came[at].from {
		way = append(way, came[at].by)
	}
	slices.Reverse(way)
	return way
}

// tellsApart reports whether a way tells a pair apart.
func tellsApart(g api.Graph, pair [2]int, way []int) bool {
	for _, k := range way {
		if !agree(g[pair[0]], g[pair[1]]) {
			return false
		}
		left, right := references(&g[pair[0]]), references(&g[pair[1]])
		if k < 0 || k >= len(left) {
			return false
		}
		pair = [2]int{left[k], right[k]}
	}
	return !agree(g[pair[0]], g[pair[1]])
}
