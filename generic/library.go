package generic

import (
	"trestle/api"
	"trestle/tree"
)

// key is what no two units of a library have both.
type key struct {
	kind uint8
	name string
}

// member is a unit of a library, and its index.
type member struct {
	api.Unit
	at int
}

// library is units without a fault.
type library struct {
	members []member
	byKey   map[key]member
}

// answer asks a library for something, or returns the fault with which the library, or what was asked, gave up.
func answer[T any](l []api.Unit, ask func(*library) T) (result T, f api.Fault) {
	defer func() {
		if gaveUp, ok := recover().(api.Fault); ok {
			f = gaveUp
		}
	}()
	return ask(opened(l)), api.Fault{}
}

// opened returns the library of units. It gives up by a panic with their fault.
func opened(l []api.Unit) *library {
	if len(l) > api.MaxUnits {
		panic(api.Fault{Err: api.ErrLimit})
	}
	lib := &library{byKey: map[key]member{}}
	for i, u := range l {
		if tree.Check(u) != api.OK {
			panic(api.Fault{Err: api.ErrTree, At: i})
		}
		if _, ok := lib.byKey[key{u.Kind, u.Name}]; ok {
			panic(api.Fault{Err: api.ErrTwice, At: i})
		}
		m := member{u, i}
		lib.members = append(lib.members, m)
		lib.byKey[key{u.Kind, u.Name}] = m
	}
	return lib
}

// origin returns the generic one of an instance, and whether the instance is right.
func (l *library) origin(m member) (member, bool) {
	g, ok := l.byKey[key{m.Kind, m.Of}]
	return g, ok && isFor(g.Unit, m.Unit)
}

// plain returns the unit that stands in the expanded library for one that is not generic.
func (l *library) plain(m member) (api.Unit, api.Errno) {
	if !isInstance(m.Unit) {
		// With no names to change, this is a copy, which shares nothing with the argument.
		return tree.Renamed(m.Unit, nil, nil)
	}
	g, ok := l.origin(m)
	if !ok {
		return api.Unit{}, api.ErrInst
	}
	return Apply(g.Unit, m.Unit)
}

// expanded returns all units that are not generic as plain ones. It gives up at the first instance that cannot be one.
func (l *library) expanded() []api.Unit {
	var units []api.Unit
	for _, m := range l.members {
		if m.Generic {
			continue
		}
		u, e := l.plain(m)
		if e != api.OK {
			panic(api.Fault{Err: e, At: m.at})
		}
		units = append(units, u)
	}
	return units
}

// offered returns what the interface with a name offers.
func (l *library) offered(name string) (wants, api.Errno) {
	m, ok := l.byKey[key{api.UnInterface, name}]
	if !ok {
		return nil, api.ErrNone
	}
	if m.Generic {
		return nil, api.ErrActual
	}
	u, e := l.plain(m)
	if e != api.OK {
		return nil, e
	}
	return declared(u), api.OK
}
