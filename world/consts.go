package world

import "trestle/api"

// evaluate is number 5: it finds the values of all constants.
func (l *library) evaluate() {
	var find func(*decl) (api.Const, bool)
	find = func(d *decl) (api.Const, bool) {
		if !d.isAsked {
			// Whoever comes back to it while its value is looked for finds none.
			d.isAsked = true
			d.value, d.hasValue = l.evaluated(d.source, d.source.root(), find)
		}
		return d.value, d.hasValue
	}
	for d := range l.decls() {
		if !d.isA(api.DcConst) {
			continue
		}
		if _, ok := find(d); !ok {
			giveUp(l.constFault(d), d.place())
		}
	}
}

// constFault returns why a constant has no value.
func (l *library) constFault(d *decl) api.Errno {
	switch {
	case !l.namesConstants(d.source):
		return api.ErrName
	case reached(d, l.constantsIn)[d]:
		return api.ErrCycle
	}
	return api.ErrConst
}

// namesConstants reports whether all names of values in an expression mean constants.
func (l *library) namesConstants(s source) bool {
	for _, n := range s.nodes {
		if n.Kind == api.ExName && !l.meant(s.member, n.Unit, n.Name).isA(api.DcConst) {
			return false
		}
	}
	return true
}

// constantsIn returns the constants that the expression of another one names.
func (l *library) constantsIn(d *decl) []*decl {
	var list []*decl
	for _, n := range d.Nodes {
		if c := l.meant(d.in, n.Unit, n.Name); n.Kind == api.ExName && c.isA(api.DcConst) {
			list = append(list, c)
		}
	}
	return list
}

// valueAt returns the value of the expression at a node, where the values of all constants are known.
func (l *library) valueAt(s source, root int) (api.Const, bool) {
	return l.evaluated(s, root, func(d *decl) (api.Const, bool) { return d.value, d.hasValue })
}

// evaluated returns the value of the expression at a node, and whether it has one. A function tells the values of constants. The nodes are gone through one by one, as nodes may be nested deeply in constants that name one another.
func (l *library) evaluated(s source, root int, valueOf func(*decl) (api.Const, bool)) (api.Const, bool) {
	values := make([]api.Const, root+1)
	for i := leftmost(s.nodes, root); i <= root; i++ {
		n := s.nodes[i]
		ok := true
		switch n.Kind {
		case api.ExInt:
			values[i] = api.Const{N: n.N}
		case api.ExBool:
			values[i] = api.Const{Bool: true, N: n.N}
		case api.ExName:
			d := l.meant(s.member, n.Unit, n.Name)
			if !d.isA(api.DcConst) {
				return api.Const{}, false
			}
			values[i], ok = valueOf(d)
		case api.ExOp:
			values[i], ok = operated(n, values)
		default:
			ok = false
		}
		if !ok {
			return api.Const{}, false
		}
	}
	return values[root], true
}

// leftmost returns the first node of those that are at or below a node.
func leftmost(nodes []api.Node, root int) int {
	for len(nodes[root].Kids) > 0 {
		root = nodes[root].Kids[0]
	}
	return root
}

// operated returns the value of an operation, and whether it has one.
func operated(n api.Node, values []api.Const) (api.Const, bool) {
	a := values[n.Kids[0]]
	if len(n.Kids) == 1 {
		return ofOne(n.Name, a)
	}
	b := values[n.Kids[1]]
	switch {
	case a.Bool && b.Bool:
		return ofBools(n.Name, a.N == 1, b.N == 1)
	case !a.Bool && !b.Bool:
		return ofInts(n.Name, a.N, b.N)
	}
	return api.Const{}, false
}

func ofOne(op string, a api.Const) (api.Const, bool) {
	switch {
	case op == "NOT" && a.Bool:
		return truth(a.N == 0)
	case op == "-" && !a.Bool:
		return number(-a.N)
	}
	return api.Const{}, false
}

func ofBools(op string, a, b bool) (api.Const, bool) {
	switch op {
	case "=":
		return truth(a == b)
	case "#":
		return truth(a != b)
	case "AND":
		return truth(a && b)
	case "OR":
		return truth(a || b)
	}
	return api.Const{}, false
}

func ofInts(op string, a, b int) (api.Const, bool) {
	switch op {
	case "+":
		return number(a + b)
	case "-":
		return number(a - b)
	case "*":
		return number(a * b)
	case "DIV", "MOD":
		return divided(op, a, b)
	case "<":
		return truth(a < b)
	case "<=":
		return truth(a <= b)
	case "=":
		return truth(a == b)
	case "#":
		return truth(a != b)
	}
	return api.Const{}, false
}

// divided returns the quotient, which is rounded down, or what is left then.
func divided(op string, a, b int) (api.Const, bool) {
	if b == 0 {
		return api.Const{}, false
	}
	q := a / b
	if q*b != a && (a < 0) != (b < 0) {
		q--
	}
	if op == "DIV" {
		return number(q)
	}
	return number(a - q*b)
}

func number(n int) (api.Const, bool) {
	if n < -api.MaxInt || n > api.MaxInt {
		return api.Const{}, false
	}
	return api.Const{N: n}, true
}

func truth(is bool) (api.Const, bool) {
	if is {
		return api.Const{Bool: true, N: 1}, true
	}
	return api.Const{Bool: true}, true
}
