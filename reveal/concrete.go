package reveal

import (
	"iter"
	"slices"

	"trestle/api"
)

func isIndex(g api.Graph, t int) bool { return 0 <= t && t < len(g) }

// fulls are the Types of Full revelations, by the symbols of which they are.
type fulls map[string]int

// fullsOf keeps, of several revelations of a symbol, the first one.
func fullsOf(l []api.Reveal) fulls {
	kept := fulls{}
	for _, r := range l {
		if _, ok := kept[r.Name]; r.Full && !ok {
			kept[r.Name] = r.Type
		}
	}
	return kept
}

// real returns what a type of a graph really is.
func (f fulls) real(g api.Graph, t int) int {
	if g[t].Kind != api.KdOpaque {
		return t
	}
	if full, ok := f[g[t].Opaque]; ok {
		return full
	}
	return t
}

// concrete returns the graph that has for each type what it really is.
func (f fulls) concrete(g api.Graph) api.Graph {
	var concrete api.Graph
	for i := range g {
		t := copied(g[f.real(g, i)])
		for at := range references(&t) {
			*at = f.real(g, *at)
		}
		concrete = append(concrete, t)
	}
	return concrete
}

// copied returns a type that shares no memory with another one.
func copied(t api.Ty) api.Ty {
	t.Parts, t.Overs, t.Methods = slices.Clone(t.Parts), slices.Clone(t.Overs), slices.Clone(t.Methods)
	for i := range t.Methods {
		s := &t.Methods[i].Sig
		s.Args, s.Raises = slices.Clone(s.Args), slices.Clone(s.Raises)
	}
	return t
}

// references yields where in a type the indices stand of those to which it refers.
func references(t *api.Ty) iter.Seq[*int] {
	var list []*int
	if t.Kind == api.KdObject || t.Kind == api.KdOpaque {
		list = append(list, &t.Super)
	}
	for i := range t.Parts {
		list = append(list, &t.Parts[i].Type)
	}
	for i := range t.Methods {
		s := &t.Methods[i].Sig
		for k := range s.Args {
			list = append(list, &s.Args[k])
		}
		if s.Result >= 0 {
			list = append(list, &s.Result)
		}
	}
	return slices.Values(list)
}
