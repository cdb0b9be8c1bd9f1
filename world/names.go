package world

import (
	"cmp"
	"slices"

	"trestle/api"
)

// nameKey is a name as it stands in a unit: with a qualifier, or with an empty one.
type nameKey struct {
	unit            int
	qualifier, name string
}

// checkNames is number 4: no name is declared twice.
func (l *library) checkNames() {
	for _, m := range l.members {
		if l.hasStranger(m) || l.exportsTwice(m) {
			giveUp(api.ErrTwice, m.place())
		}
		for d := range m.named() {
			if l.isTwice(d) {
				giveUp(api.ErrTwice, d.place())
			}
		}
	}
}

// hasStranger reports whether a unit is a module beside an interface of its Name that it does not export.
func (l *library) hasStranger(m *member) bool {
	return m.Kind == api.UnModule && l.interfaces[m.Name] != nil && !slices.Contains(m.exports, m.Name)
}

// exportsTwice reports whether two interfaces that a unit exports declare one name.
func (l *library) exportsTwice(m *member) bool {
	from := map[string]string{}
	for _, name := range m.exports {
		for d := range l.interfaces[name].named() {
			if other, ok := from[d.Name]; ok && other != name {
				return true
			}
			from[d.Name] = name
		}
	}
	return false
}

// isTwice reports whether the name of a declaration is declared ahead of it in its unit, or by an interface that this exports.
func (l *library) isTwice(d *decl) bool {
	for other := range d.in.named() {
		if other.at < d.at && other.Name == d.Name {
			return true
		}
	}
	for _, name := range d.in.exports {
		for other := range l.interfaces[name].named() {
			if other.Name == d.Name && !(d.isA(api.DcProc) && other.isA(api.DcProc)) {
				return true
			}
		}
	}
	return false
}

// keepNames keeps what names mean in each unit, and which procedures of modules implement others. What a unit declares comes last, as it counts more than what its exports declare.
func (l *library) keepNames() {
	l.means = map[nameKey]*decl{}
	for _, m := range l.members {
		for _, name := range m.sees() {
			l.keep(m, name, l.interfaces[name])
		}
		for _, name := range m.exports {
			l.keep(m, "", l.interfaces[name])
		}
		for d := range m.named() {
			if p := l.meant(m, "", d.Name); p != nil {
				d.implements, d.symbol = p, p.symbol
			}
		}
		l.keep(m, "", m)
	}
}

// keep keeps that names mean in a unit, with a qualifier, what another unit declares.
func (l *library) keep(m *member, qualifier string, from *member) {
	for d := range from.named() {
		l.means[nameKey{m.at, qualifier, d.Name}] = d
	}
}

// meant returns what the name in a node, or a declaration, means in a unit: nil if it means nothing.
func (l *library) meant(m *member, qualifier, name string) *decl {
	return l.means[nameKey{m.at, qualifier, name}]
}

// sortBy sorts a list by what a function tells of each of its items.
func sortBy[T any, K cmp.Ordered](list []T, by func(T) K) {
	slices.SortFunc(list, func(a, b T) int { return cmp.Compare(by(a), by(b)) })
}
