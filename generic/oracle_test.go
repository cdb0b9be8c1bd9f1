package generic_test

import (
	"maps"
	"slices"
	"strings"

	"trestle/api"
)

// The definitions of the chapter, written once more, without those functions of tree and of this package that do the same.

// find returns the index of the unit with a Kind and a Name, or -1.
func find(l []api.Unit, kind uint8, name string) int {
	return slices.IndexFunc(l, func(u api.Unit) bool { return u.Kind == kind && u.Name == name })
}

// isRight reports whether an instance is right.
func isRight(l []api.Unit, i api.Unit) bool {
	at := find(l, i.Kind, i.Of)
	return at >= 0 && l[at].Generic && len(l[at].Formals) == len(i.Actuals)
}

// appliedByDefinition puts the actuals of a right instance into its generic unit, or reports that there would be too many imports.
func appliedByDefinition(g, i api.Unit) (api.Unit, bool) {
	replaced := func(unit string) string {
		for place, formal := range g.Formals {
			if unit == formal {
				return i.Actuals[place]
			}
		}
		return unit
	}
	c := copyOf(g)
	trees := [][]api.Node{c.Body}
	for k := range c.Decls {
		c.Decls[k].Unit = replaced(c.Decls[k].Unit)
		trees = append(trees, c.Decls[k].Nodes, c.Decls[k].Body)
	}
	for _, l := range trees {
		for k := range l {
			l[k].Unit = replaced(l[k].Unit)
		}
	}
	u := api.Unit{Kind: i.Kind, Name: i.Name, Unsafe: i.Unsafe || g.Unsafe, Exports: i.Exports, Decls: c.Decls, Body: c.Body}
	for k, name := range append(slices.Clone(g.Imports), i.Actuals...) {
		if k < len(g.Imports) && slices.Contains(g.Formals, name) || slices.Contains(u.Imports, name) {
			continue
		}
		u.Imports = append(u.Imports, name)
	}
	return u, len(u.Imports) <= 10
}

// expandedByDefinition expands a library that has no fault. Where it cannot, it returns the first instance that is not right, and the first one with too many imports: if there are both, the chapter leaves open which of them is named.
func expandedByDefinition(l []api.Unit) ([]api.Unit, []api.Fault) {
	var plain []api.Unit
	first := map[api.Errno]api.Fault{}
	for at, u := range l {
		if u.Generic {
			continue
		}
		e := api.OK
		if u.Of != "" {
			u, e = instanceByDefinition(l, u)
		}
		if _, ok := first[e]; e != api.OK && !ok {
			first[e] = fault(e, at)
		}
		plain = append(plain, u)
	}
	if len(first) > 0 {
		return nil, slices.Collect(maps.Values(first))
	}
	return plain, []api.Fault{{}}
}

// instanceByDefinition returns what comes of an instance of a library.
func instanceByDefinition(l []api.Unit, i api.Unit) (api.Unit, api.Errno) {
	if !isRight(l, i) {
		return api.Unit{}, api.ErrInst
	}
	u, ok := appliedByDefinition(l[find(l, i.Kind, i.Of)], i)
	if !ok {
		return api.Unit{}, api.ErrLimit
	}
	return u, api.OK
}

// gather adds the sorts of names to those that are gathered.
func gather(all map[string]api.Want, l []api.Want) {
	for _, w := range l {
		a := all[w.Name]
		all[w.Name] = api.Want{
			Name: w.Name, Type: a.Type || w.Type, Exception: a.Exception || w.Exception,
			Procedure: a.Procedure || w.Procedure, Value: a.Value || w.Value,
		}
	}
}

func ascending(all map[string]api.Want) []api.Want {
	var l []api.Want
	for _, w := range all {
		l = append(l, w)
	}
	slices.SortFunc(l, func(a, b api.Want) int { return strings.Compare(a.Name, b.Name) })
	return l
}

// askedByDefinition returns what a unit asks of a qualifier.
func askedByDefinition(u api.Unit, qualifier string) []api.Want {
	all := map[string]api.Want{}
	trees := [][]api.Node{u.Body}
	for _, d := range u.Decls {
		if d.Kind == api.DcReveal && d.Unit == qualifier {
			gather(all, []api.Want{{Name: d.Name, Type: true}})
		}
		trees = append(trees, d.Nodes, d.Body)
	}
	for _, l := range trees {
		for i, n := range l {
			if n.Unit == qualifier {
				gather(all, []api.Want{use(l, i)})
			}
		}
	}
	return ascending(all)
}

// use returns the name of a node that has a qualifier, and the sort that its place says.
func use(l []api.Node, i int) api.Want {
	w := api.Want{Name: l[i].Name}
	switch l[i].Kind {
	case api.TyName:
		w.Type = true
	case api.NdRaise, api.StRaise, api.NdWhen:
		w.Exception = true
	default:
		w.Procedure = isProcedure(l, i)
		w.Value = !w.Procedure
	}
	return w
}

// isProcedure reports whether the node above an ExName calls it, or gives it to a method.
func isProcedure(l []api.Node, i int) bool {
	above := slices.IndexFunc(l, func(n api.Node) bool { return slices.Contains(n.Kids, i) })
	if above < 0 {
		return false
	}
	switch l[above].Kind {
	case api.ExCall:
		return l[above].Kids[0] == i
	case api.NdMethod, api.NdOver:
		return true
	}
	return false
}

// offeredByDefinition returns what an interface offers that is not generic, and right if it is an instance.
func offeredByDefinition(l []api.Unit, name string) []api.Want {
	u := l[find(l, api.UnInterface, name)]
	if u.Of != "" {
		u = l[find(l, api.UnInterface, u.Of)]
	}
	all := map[string]api.Want{}
	for _, d := range u.Decls {
		w := api.Want{Name: d.Name}
		switch d.Kind {
		case api.DcType, api.DcOpaque:
			w.Type = true
		case api.DcExcept:
			w.Exception = true
		case api.DcProc:
			w.Procedure = true
		case api.DcConst, api.DcVar:
			w.Value = true
		case api.DcReveal:
			continue
		}
		gather(all, []api.Want{w})
	}
	return ascending(all)
}

// offersFault returns why there is nothing that an interface offers, if that is so.
func offersFault(l []api.Unit, name string) api.Errno {
	at := find(l, api.UnInterface, name)
	switch {
	case at < 0:
		return api.ErrNone
	case l[at].Generic:
		return api.ErrActual
	case l[at].Of == "":
		return api.OK
	}
	_, e := instanceByDefinition(l, l[at])
	return e
}

// fitsByDefinition returns what Fits should return for a library without a fault.
func fitsByDefinition(l []api.Unit, i int) fit {
	if i < 0 || i >= len(l) || l[i].Of == "" {
		return fit{f: fault(api.ErrArg, 0)}
	}
	if !isRight(l, l[i]) {
		return fit{f: fault(api.ErrInst, i)}
	}
	for place, actual := range l[i].Actuals {
		switch offersFault(l, actual) {
		case api.OK:
		case api.ErrLimit:
			return fit{actual, "", fault(api.ErrLimit, place)}
		default:
			return fit{actual, "", fault(api.ErrActual, place)}
		}
	}
	g := l[find(l, l[i].Kind, l[i].Of)]
	for place, actual := range l[i].Actuals {
		offers := map[string]api.Want{}
		gather(offers, offeredByDefinition(l, actual))
		for _, w := range askedByDefinition(g, g.Formals[place]) {
			o := offers[w.Name]
			if w.Type && !o.Type || w.Exception && !o.Exception || w.Procedure && !o.Procedure || w.Value && !o.Value {
				return fit{actual, w.Name, fault(api.ErrOffer, place)}
			}
		}
	}
	return fit{}
}
