package world

import (
	"iter"
	"slices"

	"trestle/api"
	"trestle/generic"
)

// member is a unit of a library, and what is found out about it.
type member struct {
	api.Unit
	at      int
	exports []string
	decls   []*decl
	needs   []*member        // their keys ascend
	leads   map[*member]bool // the units to which it leads
}

func (m *member) place() int { return 100 * m.at }

func (m *member) key() string { return Key(m.Unit) }

// named yields the declarations that declare a name.
func (m *member) named() iter.Seq[*decl] {
	return func(yield func(*decl) bool) {
		for _, d := range m.decls {
			if d.Kind != api.DcReveal && !yield(d) {
				return
			}
		}
	}
}

// decl is a declaration of a unit, and what is found out about it.
type decl struct {
	api.Decl
	in     *member
	at     int
	symbol string

	implements    *decl   // of a procedure of a module: that of an interface
	implementedBy *member // of a procedure of an interface

	isAsked  bool // of a constant: its value was looked for
	hasValue bool
	value    api.Const // without a Name

	source source // its nodes, but for those of a body
	opaque int    // of an opaque type: its own type
}

func (d *decl) place() int { return d.in.place() + d.at + 1 }

// isA reports whether something is declared, as one of some kinds.
func (d *decl) isA(kinds ...uint8) bool { return d != nil && slices.Contains(kinds, d.Kind) }

// library is units, and what the phases that it went through have found out about them.
type library struct {
	units      []api.Unit
	members    []*member
	interfaces map[string]*member
	means      map[nameKey]*decl
	graph      api.Graph
	owners     []*decl // for each type of the graph the declaration in which it stands
}

const (
	unitPhases = 5 // those that find the faults up to number 3
	allPhases  = 13
)

// phases returns what a library goes through, from fault to fault in their order; between them stand those that only find something out.
func phases() [allPhases]func(*library) {
	return [...]func(*library){
		(*library).open,
		(*library).checkUnits,
		(*library).checkSafe,
		(*library).checkImports,
		(*library).findNeeds,
		(*library).checkNames,
		(*library).keepNames,
		(*library).evaluate,
		(*library).checkTypes,
		(*library).makeGraph,
		(*library).checkGraph,
		(*library).implement,
		(*library).checkLacking,
	}
}

// answer leads a library through its first phases and asks it for something, or returns the fault with which one of these, or what was asked, gave up.
func answer[T any](l []api.Unit, count int, ask func(*library) T) (result T, f api.Fault) {
	defer func() {
		if gaveUp, ok := recover().(api.Fault); ok {
			f = gaveUp
		}
	}()
	lib := &library{units: l}
	row := phases()
	for _, phase := range row[:count] {
		phase(lib)
	}
	return ask(lib), api.Fault{}
}

func giveUp(e api.Errno, at int) { panic(api.Fault{Err: e, At: at}) }

func (l *library) isIndex(i int) bool { return 0 <= i && i < len(l.members) }

// member returns the unit with an index. It gives up if there is none.
func (l *library) member(i int) *member {
	if !l.isIndex(i) {
		giveUp(api.ErrArg, 0)
	}
	return l.members[i]
}

// decls yields all declarations, in the order of their places.
func (l *library) decls() iter.Seq[*decl] {
	return func(yield func(*decl) bool) {
		for _, m := range l.members {
			for _, d := range m.decls {
				if !yield(d) {
					return
				}
			}
		}
	}
}

// open is number 1: the library has to be plain.
func (l *library) open() {
	if f := generic.Check(l.units); f.Err != api.OK {
		panic(f)
	}
	for i, u := range l.units {
		if u.Generic || u.Of != "" {
			giveUp(api.ErrPlain, 100*i)
		}
	}
	// A plain library is expanded to a copy of itself, which nobody else can change.
	units, _ := generic.Expand(l.units)
	l.interfaces = map[string]*member{}
	for i, u := range units {
		m := &member{Unit: u, at: i}
		for k, d := range u.Decls {
			s := source{member: m, nodes: d.Nodes}
			m.decls = append(m.decls, &decl{Decl: d, in: m, at: k, symbol: u.Name + "." + d.Name, source: s})
		}
		l.members = append(l.members, m)
		if m.Kind == api.UnInterface {
			l.interfaces[m.Name] = m
		}
	}
	for _, m := range l.members {
		m.exports = l.exportsOf(m)
	}
}

func (l *library) exportsOf(m *member) []string {
	if m.Kind == api.UnModule && len(m.Exports) == 0 && l.interfaces[m.Name] != nil {
		return []string{m.Name}
	}
	return m.Exports
}

// sees returns the names of the interfaces that a unit imports or exports.
func (m *member) sees() []string { return slices.Concat(m.Imports, m.exports) }
