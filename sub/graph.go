package sub

import (
	"math"

	"trestle/api"
)

// graph is types, and for each the least index of one that is the same.
type graph struct {
	list  api.Graph
	class []int
}

func (g graph) isIndex(i int) bool { return 0 <= i && i < len(g.list) }

func (g graph) kind(i int) uint8 { return g.list[i].Kind }

func (g graph) isReference(i int) bool {
	switch g.kind(i) {
	case api.KdInteger, api.KdBoolean, api.KdRange:
		return false
	}
	return true
}

// numbers returns the least and the greatest number of a type, if it has numbers.
func (g graph) numbers(i int) (low, high int, has bool) {
	switch t := g.list[i]; t.Kind {
	case api.KdInteger:
		return math.MinInt, math.MaxInt, true
	case api.KdRange:
		return t.Low, t.High, true
	}
	return 0, 0, false
}

// haveCommonNumber reports whether some number is in both of two types.
func (g graph) haveCommonNumber(a, b int) bool {
	low, high, has := g.numbers(a)
	otherLow, otherHigh, otherHas := g.numbers(b)
	return has && otherHas && max(low, otherLow) <= min(high, otherHigh)
}
