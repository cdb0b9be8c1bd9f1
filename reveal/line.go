package reveal

import (
	"slices"

	"trestle/api"
)

// isBelow reports whether a type really lies below another one.
func (s *sight) isBelow(a, b int) bool {
	is, _ := s.really.Below(a, b)
	return is
}

// opaque returns the index of the opaque type with a symbol.
func (s *sight) opaque(symbol string) int {
	return slices.IndexFunc(s.Graph, func(t api.Ty) bool { return t.Kind == api.KdOpaque && t.Opaque == symbol })
}

// liesInLine reports whether a revelation may stand behind those that are ahead of it.
func (s *sight) liesInLine(n int) bool {
	r := s.Shown[n]
	t := s.opaque(r.Name)
	if !s.isBelow(r.Type, s.Graph[t].Super) || !s.isBelow(t, r.Type) {
		return false
	}
	for _, ahead := range s.Shown[:n] {
		if ahead.Name == r.Name && !s.isBelow(ahead.Type, r.Type) && !s.isBelow(r.Type, ahead.Type) {
			return false
		}
	}
	return true
}

// above returns the bound of an opaque type and the Types of those of some revelations that have its symbol, each once.
func above(t api.Ty, l []api.Reveal) []int {
	list := []int{t.Super}
	for _, r := range l {
		if r.Name == t.Opaque && !slices.Contains(list, r.Type) {
			list = append(list, r.Type)
		}
	}
	return list
}

// line returns the line of an opaque type.
func (s *sight) line(t int) []int {
	list := above(s.Graph[t], s.all())
	order(list, func(a, b int) bool {
		return s.isBelow(a, b) && (a < b || !s.isBelow(b, a))
	})
	return list
}

// order puts items of a list ahead of those that should stand behind them.
func order[T any](list []T, ahead func(a, b T) bool) {
	slices.SortFunc(list, func(a, b T) int {
		switch {
		case ahead(a, b):
			return -1
		case ahead(b, a):
			return 1
		}
		return 0
	})
}
