package generic

import (
	"slices"

	"trestle/api"
)

func isInstance(u api.Unit) bool { return u.Of != "" }

// isFor reports whether the actuals of a unit can be put into another one; names aside.
func isFor(generic, instance api.Unit) bool {
	return generic.Generic && isInstance(instance) && generic.Kind == instance.Kind && len(generic.Formals) == len(instance.Actuals)
}

// importsOf returns what an instance imports when its actuals are in the place of the formals.
func importsOf(generic, instance api.Unit) []string {
	var imports []string
	add := func(name string) {
		if !slices.Contains(imports, name) {
			imports = append(imports, name)
		}
	}
	for _, name := range generic.Imports {
		if !slices.Contains(generic.Formals, name) {
			add(name)
		}
	}
	for _, name := range instance.Actuals {
		add(name)
	}
	return imports
}

// misfit is an actual that does not fit, perhaps a name that it does not offer, and the fault; or nothing.
type misfit struct {
	actual, name string
	api.Fault
}

// misfit returns why the unit with an index is no instance that fits. It gives up if the unit itself is to blame.
func (l *library) misfit(i int) misfit {
	if i < 0 || i >= len(l.members) || !isInstance(l.members[i].Unit) {
		panic(api.Fault{Err: api.ErrArg})
	}
	m := l.members[i]
	g, ok := l.origin(m)
	if !ok {
		panic(api.Fault{Err: api.ErrInst, At: i})
	}
	var offers []wants
	for place, actual := range m.Actuals {
		offer, e := l.offered(actual)
		switch e {
		case api.OK:
			offers = append(offers, offer)
		case api.ErrLimit:
			return misfit{actual, "", api.Fault{Err: api.ErrLimit, At: place}}
		default:
			return misfit{actual, "", api.Fault{Err: api.ErrActual, At: place}}
		}
	}
	return lacking(g, m, offers)
}

// lacking returns the first actual, and its least name, of those that are asked for and not offered.
func lacking(g, m member, offers []wants) misfit {
	var found misfit
places:
	for place, formal := range g.Formals {
		asks := asked(g.Unit, formal)
		for _, name := range ascending(asks) {
			if !asks[name].isIn(offers[place][name]) {
				found = misfit{m.Actuals[place], name, api.Fault{Err: api.ErrOffer, At: place}}
				break places
			}
		}
	}
	return found
}
