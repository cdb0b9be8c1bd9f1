package reveal_test

import (
	"slices"
	"testing"

	"trestle/api"
	"trestle/sub"
	"trestle/world"
)

// This file says once more what the chapter says in its sections Words and Errors.

// marked is a revelation of a library, or an opaque type, and its place.
type marked struct {
	api.Reveal
	opaque bool
	place  int
}

// marksOf returns the revelations and the opaque types of a library, in the order of their places.
func marksOf(l []api.Unit, w api.World) []marked {
	var marks []marked
	shown := w.Shown
	for i, u := range l {
		for k, d := range u.Decls {
			place := 100*i + k + 1
			if d.Kind == api.DcOpaque {
				marks = append(marks, marked{api.Reveal{Name: u.Name + "." + d.Name}, true, place})
			}
			if d.Kind == api.DcReveal {
				marks = append(marks, marked{shown[0].Reveal, false, place})
				shown = shown[1:]
			}
		}
	}
	return marks
}

// reallyIs returns what a type of a graph really is, by revelations.
func reallyIs(g api.Graph, l []api.Reveal, t int) int {
	for _, r := range l {
		if g[t].Kind == api.KdOpaque && r.Full && r.Name == g[t].Opaque {
			return r.Type
		}
	}
	return t
}

// concreteByDefinition returns the concrete graph of a graph by revelations.
func concreteByDefinition(g api.Graph, l []api.Reveal) api.Graph {
	refers := moved(g, func(i int) int { return reallyIs(g, l, i) })
	var out api.Graph
	for i := range g {
		out = append(out, refers[reallyIs(g, l, i)])
	}
	return out
}

func revealsOf(w api.World) []api.Reveal {
	var l []api.Reveal
	for _, s := range w.Shown {
		l = append(l, s.Reveal)
	}
	return l
}

// supersFrom returns the types to which Supers of objects lead from a type, in a concrete graph.
func supersFrom(g api.Graph, i int) []int {
	var l []int
	for len(l) <= len(g) && g[i].Kind == api.KdObject {
		i = g[i].Super
		l = append(l, i)
	}
	return l
}

// faultByDefinition returns the fault of a library's revelations, and its number.
func faultByDefinition(l []api.Unit) (api.Fault, int) {
	w, f := world.Build(l)
	if f.Err != api.OK {
		return f, 1
	}
	if len(w.Shown) > 60 {
		return fault(api.ErrLimit, 0), 1
	}
	marks, all := marksOf(l, w), revealsOf(w)
	for i, m := range marks {
		of := marks
		if !m.opaque {
			of = marks[:i]
		}
		hasFull := slices.ContainsFunc(of, func(o marked) bool { return !o.opaque && o.Full && o.Name == m.Name })
		if m.opaque && !hasFull || m.Full && hasFull {
			return fault(api.ErrFull, m.place), 2
		}
	}
	g := concreteByDefinition(w.Graph, all)
	for i := range g {
		if slices.Contains(supersFrom(g, i), i) {
			return fault(api.ErrCircle, i), 3
		}
	}
	for i, t := range g {
		if t.Kind == api.KdObject && !slices.Contains([]uint8{api.KdObject, api.KdRoot, api.KdMutex, api.KdCondition}, g[t.Super].Kind) {
			return fault(api.ErrSuper, i), 4
		}
	}
	if sub.Check(w.Graph, all) != api.OK {
		return fault(api.ErrCircle, 0), 5
	}
	v, _ := sub.In(g, nil)
	isBelow := func(a, b int) bool { is, _ := v.Below(a, b); return is }
	for i, m := range marks {
		t := slices.IndexFunc(w.Graph, func(t api.Ty) bool { return t.Kind == api.KdOpaque && t.Opaque == m.Name })
		apart := func(o marked) bool {
			return !o.opaque && o.Name == m.Name && !isBelow(o.Type, m.Type) && !isBelow(m.Type, o.Type)
		}
		if !m.opaque && (!isBelow(m.Type, w.Graph[t].Super) || !isBelow(reallyIs(w.Graph, all, t), m.Type) || slices.ContainsFunc(marks[:i], apart)) {
			return fault(api.ErrLine, m.place), 6
		}
	}
	return api.Fault{}, 0
}

// seesByDefinition returns the revelations that a unit sees.
func seesByDefinition(l []api.Unit, w api.World, unit int) []api.Reveal {
	var out []api.Reveal
	u := l[unit]
	exports := u.Exports
	for _, other := range l {
		if u.Kind == api.UnModule && len(u.Exports) == 0 && other.Kind == api.UnInterface && other.Name == u.Name {
			exports = []string{u.Name}
		}
	}
	for _, s := range w.Shown {
		inItself := s.Unit == w.Units[unit]
		for _, name := range slices.Concat(u.Imports, exports) {
			inItself = inItself || s.Unit == name+"."
		}
		if inItself {
			out = append(out, s.Reveal)
		}
	}
	return out
}

// isLine reports whether a list is the line of an opaque type.
func isLine(t *testing.T, w api.World, i int, list []int) bool {
	t.Helper()
	all := revealsOf(w)
	v := envOf(t, concreteByDefinition(w.Graph, all), nil)
	in := map[int]bool{w.Graph[i].Super: true}
	for _, r := range all {
		if r.Name == w.Graph[i].Opaque {
			in[r.Type] = true
		}
	}
	if len(list) != len(in) {
		return false
	}
	for n, a := range list {
		for _, b := range list[n+1:] {
			if a == b || !below(t, v, a, b) || below(t, v, b, a) && a > b {
				return false
			}
		}
		if !in[a] {
			return false
		}
	}
	return true
}
