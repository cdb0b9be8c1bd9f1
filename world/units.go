package world

import (
	"slices"

	"trestle/api"
)

// checkUnits is the first part of number 2: imports and exports are interfaces.
func (l *library) checkUnits() {
	isNone := func(name string) bool { return l.interfaces[name] == nil }
	for _, m := range l.members {
		if slices.ContainsFunc(m.sees(), isNone) {
			giveUp(api.ErrUnit, m.place())
		}
	}
}

// checkSafe is the second part of number 2: safe units have to do with safe ones alone.
func (l *library) checkSafe() {
	isUnsafe := func(name string) bool { return l.interfaces[name].Unsafe }
	for _, m := range l.members {
		if !m.Unsafe && slices.ContainsFunc(m.sees(), isUnsafe) {
			giveUp(api.ErrSafe, m.place())
		}
	}
}

// checkImports is number 3: no interface comes to itself.
func (l *library) checkImports() {
	for _, m := range l.members {
		if reached(m, l.imported)[m] { // modules are imported by nobody
			giveUp(api.ErrCycle, m.place())
		}
	}
}

func (l *library) imported(m *member) []*member {
	var list []*member
	for _, name := range m.Imports {
		list = append(list, l.interfaces[name])
	}
	return list
}

// reached returns to what one comes, by one or more steps, from something.
func reached[T comparable](from T, next func(T) []T) map[T]bool {
	found := map[T]bool{}
	ahead := []T{from}
	for len(ahead) > 0 {
		at := ahead[0]
		ahead = ahead[1:]
		for _, n := range next(at) {
			if !found[n] {
				found[n] = true
				ahead = append(ahead, n)
			}
		}
	}
	return found
}

// findNeeds finds for each unit what it needs, and to what it leads.
func (l *library) findNeeds() {
	for _, m := range l.members {
		for _, n := range l.members {
			if l.isNeeded(m, n) {
				m.needs = append(m.needs, n)
			}
		}
		sortBy(m.needs, (*member).key)
	}
	for _, m := range l.members {
		m.leads = reached(m, func(m *member) []*member { return m.needs })
	}
}

// isNeeded reports whether a unit needs another one.
func (l *library) isNeeded(m, other *member) bool {
	if other.Kind == api.UnInterface {
		return slices.Contains(m.sees(), other.Name)
	}
	exported := func(name string) bool { return slices.Contains(other.exports, name) }
	return m.Kind == api.UnModule && m != other && slices.ContainsFunc(m.Imports, exported)
}

// isTogether reports whether two units are of one group.
func isTogether(m, n *member) bool { return m == n || m.leads[n] && n.leads[m] }

// order returns the keys of all units, in the order in which they are run.
func (l *library) order() []string {
	byKey := slices.Clone(l.members)
	sortBy(byKey, (*member).key)
	var order []*member
next:
	for len(order) < len(byKey) {
		for _, m := range byKey {
			if slices.Contains(order, m) || !l.isNext(m, order) {
				continue
			}
			for _, n := range byKey {
				if isTogether(m, n) {
					order = append(order, n)
				}
			}
			continue next
		}
	}
	return keysOf(order)
}

// isNext reports whether the group of a unit can come behind those that have come.
func (l *library) isNext(m *member, order []*member) bool {
	for _, n := range l.members {
		if m.leads[n] && !isTogether(m, n) && !slices.Contains(order, n) {
			return false
		}
	}
	return true
}

// isOrder reports whether a list has each unit once, and behind what it needs.
func (l *library) isOrder(order []string) bool {
	for _, m := range l.members {
		at := slices.Index(order, m.key())
		if at < 0 {
			return false
		}
		for _, n := range m.needs {
			if !isTogether(m, n) && !slices.Contains(order[:at], n.key()) {
				return false
			}
		}
	}
	return len(order) == len(l.members)
}

func keysOf(l []*member) []string {
	var keys []string
	for _, m := range l {
		keys = append(keys, m.key())
	}
	return keys
}
