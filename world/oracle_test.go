package world_test

import (
	"cmp"
	"math"
	"slices"
	"strings"

	"trestle/api"
	"trestle/generic"
	"trestle/types"
)

// The definitions of the chapter, written once more: as searches in the units themselves, without tables.

// spot is a declaration: the index of its unit, and its own one.
type spot struct{ unit, decl int }

func (s spot) place() int { return 100*s.unit + s.decl + 1 }

// model is a library, the values of those of its constants that have one, and where its types stand.
type model struct {
	l      []api.Unit
	values map[spot]api.Const
	stands map[node]int
}

// modelOf returns the model of units that have no fault up to number 4.
func modelOf(l []api.Unit) model {
	m := model{l, map[spot]api.Const{}, map[node]int{}}
	for i, n := range m.nodes() {
		m.stands[n] = i
	}
	return m
}

func (m model) find(kind uint8, name string) int {
	return slices.IndexFunc(m.l, func(u api.Unit) bool { return u.Kind == kind && u.Name == name })
}

func (m model) exports(i int) []string {
	u := m.l[i]
	if u.Kind == api.UnInterface || len(u.Exports) > 0 {
		return u.Exports
	}
	if m.find(api.UnInterface, u.Name) >= 0 {
		return []string{u.Name}
	}
	return nil
}

func (m model) sees(i int) []string { return slices.Concat(m.exports(i), m.l[i].Imports) }

func (m model) decl(s spot) api.Decl { return m.l[s.unit].Decls[s.decl] }

// spots returns all declarations of some kinds.
func (m model) spots(kinds ...uint8) []spot {
	var all []spot
	for i, u := range m.l {
		for k, d := range u.Decls {
			if slices.Contains(kinds, d.Kind) {
				all = append(all, spot{i, k})
			}
		}
	}
	return all
}

// declared returns where a unit declares a name.
func (m model) declared(unit int, name string) []spot {
	var all []spot
	for k, d := range m.l[unit].Decls {
		if d.Name == name && d.Kind != api.DcReveal {
			all = append(all, spot{unit, k})
		}
	}
	return all
}

// mean returns what a name means in a unit, and as which kind; the kind 0 is nothing.
func (m model) mean(unit int, qualifier, name string) (spot, uint8) {
	var all []spot
	if qualifier == "" {
		all = m.declared(unit, name)
		for _, e := range m.exports(unit) {
			all = append(all, m.declared(m.find(api.UnInterface, e), name)...)
		}
	} else if slices.Contains(m.sees(unit), qualifier) {
		all = m.declared(m.find(api.UnInterface, qualifier), name)
	}
	if len(all) == 0 {
		return spot{}, 0
	}
	return all[0], m.decl(all[0]).Kind
}

// implemented returns the procedure of an interface that one of a module implements.
func (m model) implemented(s spot) (spot, bool) {
	for _, e := range m.exports(s.unit) {
		if all := m.declared(m.find(api.UnInterface, e), m.decl(s).Name); len(all) > 0 && m.decl(s).Kind == api.DcProc {
			return all[0], true
		}
	}
	return spot{}, false
}

func (m model) symbol(s spot) string {
	if p, ok := m.implemented(s); ok {
		s = p
	}
	return m.l[s.unit].Name + "." + m.decl(s).Name
}

// faultsByDefinition returns the faults that a library may be said to have: just one, but where the chapter leaves open which of several it is.
func faultsByDefinition(l []api.Unit) []api.Fault {
	if f := generic.Check(l); f.Err != api.OK {
		return []api.Fault{f}
	}
	m := modelOf(l)
	for _, number := range []func() []api.Fault{m.plain, m.units, m.safe, m.circles, m.twice, m.constants, m.types, m.many, m.refused, m.bodies, m.lacking} {
		if f := number(); len(f) > 0 {
			return f
		}
	}
	return []api.Fault{{}}
}

// firstUnit and firstDecl return the fault of the first one for which a function tells an error.
func (m model) firstUnit(e func(int) api.Errno) []api.Fault {
	for i := range m.l {
		if e := e(i); e != api.OK {
			return []api.Fault{{Err: e, At: 100 * i}}
		}
	}
	return nil
}

func (m model) firstDecl(e func(spot) api.Errno, kinds ...uint8) []api.Fault {
	for _, s := range m.spots(kinds...) {
		if e := e(s); e != api.OK {
			return []api.Fault{{Err: e, At: s.place()}}
		}
	}
	return nil
}

func when(is bool, e api.Errno) api.Errno {
	if is {
		return e
	}
	return api.OK
}

func (m model) plain() []api.Fault {
	return m.firstUnit(func(i int) api.Errno { return when(m.l[i].Generic || m.l[i].Of != "", api.ErrPlain) })
}

func (m model) units() []api.Fault {
	return m.firstUnit(func(i int) api.Errno {
		return when(slices.ContainsFunc(m.sees(i), func(name string) bool { return m.find(api.UnInterface, name) < 0 }), api.ErrUnit)
	})
}

func (m model) safe() []api.Fault {
	return m.firstUnit(func(i int) api.Errno {
		return when(!m.l[i].Unsafe && slices.ContainsFunc(m.sees(i), func(name string) bool { return m.l[m.find(api.UnInterface, name)].Unsafe }), api.ErrSafe)
	})
}

func (m model) circles() []api.Fault {
	leads := closure(len(m.l), func(i, j int) bool {
		return m.l[j].Kind == api.UnInterface && slices.Contains(m.l[i].Imports, m.l[j].Name)
	})
	return m.firstUnit(func(i int) api.Errno { return when(m.l[i].Kind == api.UnInterface && leads(i, i), api.ErrCycle) })
}

// closure returns whether one comes, by one or more steps, from a number to another one.
func closure(n int, step func(i, j int) bool) func(i, j int) bool {
	leads := make([]bool, n*n)
	for i := range n {
		for j := range n {
			leads[n*i+j] = step(i, j)
		}
	}
	for k := range n {
		for i := range n {
			for j := range n {
				leads[n*i+j] = leads[n*i+j] || leads[n*i+k] && leads[n*k+j]
			}
		}
	}
	return func(i, j int) bool { return leads[n*i+j] }
}

func (m model) twice() []api.Fault {
	all := m.firstUnit(func(i int) api.Errno {
		u := m.l[i]
		is := u.Kind == api.UnModule && m.find(api.UnInterface, u.Name) >= 0 && !slices.Contains(m.exports(i), u.Name)
		for k, e := range m.exports(i) {
			for _, f := range m.exports(i)[:k] {
				for _, d := range m.l[m.find(api.UnInterface, e)].Decls {
					is = is || d.Kind != api.DcReveal && len(m.declared(m.find(api.UnInterface, f), d.Name)) > 0
				}
			}
		}
		return when(is, api.ErrTwice)
	})
	all = append(all, m.firstDecl(func(s spot) api.Errno {
		d := m.decl(s)
		is := m.declared(s.unit, d.Name)[0] != s
		for _, e := range m.exports(s.unit) {
			for _, o := range m.declared(m.find(api.UnInterface, e), d.Name) {
				is = is || d.Kind != api.DcProc || m.decl(o).Kind != api.DcProc
			}
		}
		return when(is, api.ErrTwice)
	}, api.DcConst, api.DcType, api.DcOpaque, api.DcVar, api.DcExcept, api.DcProc)...)
	return least(all)
}

// least returns the fault with the least place.
func least(l []api.Fault) []api.Fault {
	if len(l) == 0 {
		return nil
	}
	return []api.Fault{slices.MinFunc(l, func(a, b api.Fault) int { return cmp.Compare(a.At, b.At) })}
}

// constants finds the values of constants: first of those that name no others, then of those that name these, and so on.
func (m model) constants() []api.Fault {
	all := m.spots(api.DcConst)
	for range all {
		for _, s := range all {
			if c, ok := m.value(s.unit, m.decl(s).Nodes, len(m.decl(s).Nodes)-1); ok {
				m.values[s] = c
			}
		}
	}
	comesTo := closure(len(all), func(i, j int) bool {
		return slices.ContainsFunc(m.decl(all[i]).Nodes, func(n api.Node) bool {
			s, kind := m.mean(all[i].unit, n.Unit, n.Name)
			return n.Kind == api.ExName && kind == api.DcConst && s == all[j]
		})
	})
	for i, s := range all {
		_, has := m.values[s]
		switch {
		case m.isNameless(s):
			return []api.Fault{{Err: api.ErrName, At: s.place()}}
		case comesTo(i, i):
			for j := range all {
				if comesTo(i, j) && m.isNameless(all[j]) { // it may be said to have no value, as that one has none
					return []api.Fault{{Err: api.ErrCycle, At: s.place()}, {Err: api.ErrConst, At: s.place()}}
				}
			}
			return []api.Fault{{Err: api.ErrCycle, At: s.place()}}
		case !has:
			return []api.Fault{{Err: api.ErrConst, At: s.place()}}
		}
	}
	return nil
}

// isNameless reports whether a name in a constant means no constant.
func (m model) isNameless(s spot) bool {
	return slices.ContainsFunc(m.decl(s).Nodes, func(n api.Node) bool {
		_, kind := m.mean(s.unit, n.Unit, n.Name)
		return n.Kind == api.ExName && kind != api.DcConst
	})
}

func (m model) value(unit int, l []api.Node, at int) (api.Const, bool) {
	n := l[at]
	switch n.Kind {
	case api.ExInt:
		return api.Const{N: n.N}, true
	case api.ExBool:
		return api.Const{Bool: true, N: n.N}, true
	case api.ExName:
		if s, kind := m.mean(unit, n.Unit, n.Name); kind == api.DcConst {
			c, ok := m.values[s]
			return c, ok
		}
	case api.ExOp:
		a, ok := m.value(unit, l, n.Kids[0])
		if len(n.Kids) == 1 {
			return inBounds(a, ok && n.Name == map[bool]string{false: "-", true: "NOT"}[a.Bool], map[bool]int{false: -a.N, true: 1 - a.N}[a.Bool])
		}
		b, also := m.value(unit, l, n.Kids[1])
		return operation(n.Name, a, b, ok && also)
	}
	return api.Const{}, false
}

// inBounds returns a value of the sort of another one.
func inBounds(like api.Const, ok bool, n int) (api.Const, bool) {
	if !ok || n < -1000000000 || n > 1000000000 {
		return api.Const{}, false
	}
	return api.Const{Bool: like.Bool, N: n}, true
}

func operation(name string, a, b api.Const, ok bool) (api.Const, bool) {
	is := map[bool]int{true: 1}
	ints := map[string]int{"+": a.N + b.N, "-": a.N - b.N, "*": a.N * b.N}
	if b.N != 0 {
		ints["DIV"] = int(math.Floor(float64(a.N) / float64(b.N)))
		ints["MOD"] = a.N - b.N*ints["DIV"]
	}
	ofInts := map[string]int{"<": is[a.N < b.N], "<=": is[a.N <= b.N], "=": is[a.N == b.N], "#": is[a.N != b.N]}
	ofBools := map[string]int{"=": is[a.N == b.N], "#": is[a.N != b.N], "AND": a.N * b.N, "OR": max(a.N, b.N)}
	table, result := ofInts, api.Const{Bool: true}
	if _, isInt := ints[name]; isInt {
		table, result = ints, api.Const{}
	}
	if a.Bool {
		table, result = ofBools, api.Const{Bool: true}
	}
	n, has := table[name]
	return inBounds(result, ok && has && a.Bool == b.Bool, n)
}

var declsOfTypes = []uint8{api.DcType, api.DcOpaque, api.DcVar, api.DcExcept, api.DcProc, api.DcReveal}

func (m model) types() []api.Fault {
	f := m.firstDecl(func(s spot) api.Errno { return m.typeError(s, m.comesBack) }, declsOfTypes...)
	// A name that leads to one that comes back, but does not come back itself, may be said to have this fault, too.
	return append(f, m.firstDecl(func(s spot) api.Errno { return m.typeError(s, m.leadsNowhere) }, declsOfTypes...)...)
}

func (m model) typeError(s spot, isCircular func(spot) bool) api.Errno {
	d := m.decl(s)
	for i, n := range d.Nodes {
		_, kind := m.mean(s.unit, n.Unit, n.Name)
		above := slices.IndexFunc(d.Nodes, func(n api.Node) bool { return slices.Contains(n.Kids, i) })
		if n.Kind == api.TyName && kind != api.DcType && kind != api.DcOpaque || n.Kind == api.NdRaise && n.Name != "ALERTED" && kind != api.DcExcept {
			return api.ErrName
		}
		if n.Kind == api.ExName && kind != api.DcProc && (d.Nodes[above].Kind == api.NdMethod || d.Nodes[above].Kind == api.NdOver) {
			return api.ErrName
		}
	}
	if _, kind := m.mean(s.unit, d.Unit, d.Name); d.Kind == api.DcReveal && kind != api.DcOpaque {
		return api.ErrName
	}
	if isCircular(s) {
		return api.ErrCycle
	}
	for _, n := range d.Nodes {
		if n.Kind == api.TyRange {
			a, isA := m.value(s.unit, d.Nodes, n.Kids[0])
			b, isB := m.value(s.unit, d.Nodes, n.Kids[1])
			if !isA || !isB || a.Bool || b.Bool || a.N > b.N {
				return api.ErrConst
			}
		}
	}
	return api.OK
}

// next returns the declared type that a node names.
func (m model) next(unit int, n api.Node) (spot, bool) {
	s, kind := m.mean(unit, n.Unit, n.Name)
	return s, n.Kind == api.TyName && kind == api.DcType
}

func (m model) comesBack(s spot) bool {
	at := s
	for range m.spots(api.DcType) {
		nodes := m.decl(at).Nodes
		next, ok := spot{}, false
		if len(nodes) > 0 && m.decl(at).Kind == api.DcType {
			next, ok = m.next(at.unit, nodes[len(nodes)-1])
		}
		if !ok {
			return false
		}
		if at = next; at == s {
			return true
		}
	}
	return false
}

func (m model) leadsNowhere(s spot) bool {
	for _, n := range m.decl(s).Nodes {
		at, ok := m.next(s.unit, n)
		for range m.spots(api.DcType) {
			if ok && m.comesBack(at) {
				return true
			}
			if ok {
				nodes := m.decl(at).Nodes
				at, ok = m.next(at.unit, nodes[len(nodes)-1])
			}
		}
	}
	return m.comesBack(s)
}

// node is where a type of the graph stands: a node of a declaration, or -1 for an opaque type.
type node struct {
	spot
	node int
}

func (m model) nodes() []node {
	var all []node
	for _, s := range m.spots(declsOfTypes...) {
		if m.decl(s).Kind == api.DcOpaque {
			all = append(all, node{s, -1})
		}
		for i, n := range m.decl(s).Nodes {
			if strings.ContainsRune("\x02\x03\x04\x05\x06\x07", rune(n.Kind)) {
				all = append(all, node{s, i})
			}
		}
	}
	return all
}

func (m model) many() []api.Fault {
	if len(m.nodes()) > 400 {
		return []api.Fault{{Err: api.ErrLimit}}
	}
	return nil
}

// refers returns the type to which a node of a declaration refers, or the declaration itself (-1).
func (m model) refers(s spot, i int) int {
	d := m.decl(s)
	switch {
	case d.Kind == api.DcOpaque && i < 0:
		return m.stands[node{s, -1}]
	case i < 0:
		return m.refers(s, len(d.Nodes)-1)
	case d.Nodes[i].Kind == api.TyName:
		to, _ := m.mean(s.unit, d.Nodes[i].Unit, d.Nodes[i].Name)
		return m.refers(to, -1)
	}
	return m.stands[node{s, i}]
}

func (m model) graph() api.Graph {
	var g api.Graph
	for _, n := range m.nodes() {
		if n.node < 0 {
			g = append(g, api.Ty{Kind: api.KdOpaque, Opaque: m.symbol(n.spot), Super: m.refers(n.spot, len(m.decl(n.spot).Nodes)-1)})
		} else {
			g = append(g, m.typ(n.spot, n.node))
		}
	}
	return g
}

var wordKinds = map[string]uint8{"INTEGER": 1, "BOOLEAN": 2, "REFANY": 4, "NULL": 5, "ROOT": 6, "MUTEX": 7, "CONDITION": 8}

func (m model) typ(s spot, i int) api.Ty {
	l := m.decl(s).Nodes
	n := l[i]
	t := api.Ty{Kind: map[uint8]uint8{api.TyPlain: wordKinds[n.Name], api.TyRange: 3, api.TyRef: 9, api.TyRecord: 10, api.TyArray: 11, api.TyObject: 12}[n.Kind]}
	if n.N == 1 {
		t.Branded, t.Brand = true, n.Name
	}
	for k, kid := range n.Kids {
		switch c := l[kid]; {
		case n.Kind == api.TyRange:
			v, _ := m.value(s.unit, l, kid)
			*[]*int{&t.Low, &t.High}[k] = v.N
		case c.Kind == api.NdField:
			t.Parts = append(t.Parts, api.Part{Name: c.Name, Type: m.refers(s, c.Kids[0])})
		case c.Kind == api.NdMethod:
			t.Methods = append(t.Methods, api.Method{Name: c.Name, Sig: m.sig(s, c.Kids[0]), Proc: m.procedure(s, c.Kids[1:])})
		case c.Kind == api.NdOver:
			t.Overs = append(t.Overs, api.Over{Name: c.Name, Proc: m.procedure(s, c.Kids)})
		case n.Kind == api.TyObject:
			t.Super = m.refers(s, kid)
		default:
			t.Parts = []api.Part{{Type: m.refers(s, kid)}}
		}
	}
	return t
}

func (m model) procedure(s spot, kids []int) string {
	if len(kids) == 0 {
		return ""
	}
	n := m.decl(s).Nodes[kids[0]]
	p, _ := m.mean(s.unit, n.Unit, n.Name)
	return m.symbol(p)
}

func (m model) sig(s spot, i int) api.Sig {
	l := m.decl(s).Nodes
	sig := api.Sig{Result: -1}
	for _, kid := range l[i].Kids {
		switch n := l[kid]; {
		case n.Kind == api.NdParam:
			sig.Args = append(sig.Args, m.refers(s, n.Kids[0]))
		case n.Kind == api.NdRaise && n.Name == "ALERTED":
			sig.Raises = append(sig.Raises, "ALERTED")
		case n.Kind == api.NdRaise:
			e, _ := m.mean(s.unit, n.Unit, n.Name)
			sig.Raises = append(sig.Raises, m.symbol(e))
		default:
			sig.Result = m.refers(s, kid)
		}
	}
	slices.Sort(sig.Raises)
	sig.Raises = slices.Compact(sig.Raises)
	return sig
}

func (m model) refused() []api.Fault {
	g, all := m.graph(), m.nodes()
	reveals := m.firstDecl(func(s spot) api.Errno {
		t := g[m.refers(s, -1)]
		return when(m.decl(s).N == 1 && !t.Branded || m.decl(s).N == 0 && slices.Contains([]uint8{1, 2, 3, 5}, t.Kind), api.ErrType)
	}, api.DcReveal)
	var found []api.Fault
	for i := range g {
		at := i
		for k := 0; k <= len(g) && (k == 0 || at != i) && (g[at].Kind == 12 || g[at].Kind == 13); k++ {
			at = g[at].Super
			if at == i {
				found = append(found, api.Fault{Err: api.ErrType, At: all[i].place()})
			}
		}
	}
	// Of types that are wrong in themselves, and such as lead back to themselves, Check names one of the first sort.
	named := slices.Clone(reveals)
	if i, e := types.Check(g); e != api.OK {
		named = append(named, api.Fault{Err: api.ErrType, At: all[i].place()})
	}
	return append(least(slices.Concat(found, named)), least(named)...)
}

func (m model) bodies() []api.Fault {
	g, by := m.graph(), map[spot]bool{}
	class, _ := types.Classes(g)
	same := func(i, j int) bool { return i >= 0 && j >= 0 && class[i] == class[j] || i < 0 && j < 0 }
	return m.firstDecl(func(s spot) api.Errno {
		p, ok := m.implemented(s)
		if !ok {
			return api.OK
		}
		a, b := m.sig(s, len(m.decl(s).Nodes)-1), m.sig(p, len(m.decl(p).Nodes)-1)
		if !slices.EqualFunc(a.Args, b.Args, same) || !same(a.Result, b.Result) || !slices.Equal(a.Raises, b.Raises) {
			return api.ErrSig
		}
		twice := by[p]
		by[p] = true
		return when(twice, api.ErrTwice)
	}, api.DcProc)
}

// body returns the procedure that implements one of an interface.
func (m model) body(p spot) (spot, bool) {
	for _, s := range m.spots(api.DcProc) {
		if q, ok := m.implemented(s); ok && q == p {
			return s, true
		}
	}
	return spot{}, false
}

func (m model) lacking() []api.Fault {
	return m.firstDecl(func(s spot) api.Errno {
		_, ok := m.body(s)
		return when(m.l[s.unit].Kind == api.UnInterface && !ok, api.ErrLacking)
	}, api.DcProc)
}

// worldByDefinition returns the world of a library without a fault, but for its Procs.
func worldByDefinition(l []api.Unit) api.World {
	m := modelOf(l)
	m.constants()
	w := api.World{Graph: m.graph(), Order: m.order()}
	for _, u := range l {
		w.Units = append(w.Units, keyOf(u))
	}
	for _, s := range m.spots(api.DcConst) {
		w.Consts = append(w.Consts, api.Const{Name: m.symbol(s), Bool: m.values[s].Bool, N: m.values[s].N})
	}
	for _, s := range m.spots(api.DcType, api.DcOpaque) {
		w.Types = append(w.Types, api.Part{Name: m.symbol(s), Type: m.refers(s, -1)})
	}
	for _, s := range m.spots(api.DcVar) {
		w.Vars = append(w.Vars, api.Part{Name: m.symbol(s), Type: m.refers(s, -1)})
	}
	for _, s := range m.spots(api.DcExcept) {
		w.Excs = append(w.Excs, m.symbol(s))
	}
	for _, s := range m.spots(api.DcReveal) {
		o, _ := m.mean(s.unit, m.decl(s).Unit, m.decl(s).Name)
		w.Shown = append(w.Shown, api.Shown{Unit: keyOf(l[s.unit]), Reveal: api.Reveal{Name: m.symbol(o), Full: m.decl(s).N == 1, Type: m.refers(s, -1)}})
	}
	slices.SortFunc(w.Consts, func(a, b api.Const) int { return strings.Compare(a.Name, b.Name) })
	for _, p := range [][]api.Part{w.Types, w.Vars} {
		slices.SortFunc(p, func(a, b api.Part) int { return strings.Compare(a.Name, b.Name) })
	}
	slices.Sort(w.Excs)
	return w
}

// headingsByDefinition returns the procedures of a library without a fault: with the signatures of interfaces, and, as these are the same, with those of the modules.
func headingsByDefinition(l []api.Unit) (ofInterfaces, ofModules []api.Heading) {
	m := modelOf(l)
	m.constants()
	for _, s := range m.spots(api.DcProc) {
		if l[s.unit].Kind == api.UnInterface {
			continue
		}
		p, ok := m.implemented(s)
		if !ok {
			p = s
		}
		ofInterfaces = append(ofInterfaces, api.Heading{Name: m.symbol(s), Sig: m.sig(p, len(m.decl(p).Nodes)-1), Module: l[s.unit].Name})
		ofModules = append(ofModules, api.Heading{Name: m.symbol(s), Sig: m.sig(s, len(m.decl(s).Nodes)-1), Module: l[s.unit].Name})
	}
	for _, h := range [][]api.Heading{ofInterfaces, ofModules} {
		slices.SortFunc(h, func(a, b api.Heading) int { return strings.Compare(a.Name, b.Name) })
	}
	return ofInterfaces, ofModules
}

func keyOf(u api.Unit) string { return u.Name + strings.Repeat(".", int(api.UnModule-u.Kind)) }

// needs returns whether a unit needs another one.
func (m model) needs(i, j int) bool {
	u, v := m.l[i], m.l[j]
	if v.Kind == api.UnInterface {
		return slices.Contains(m.sees(i), v.Name)
	}
	return u.Kind == api.UnModule && i != j && slices.ContainsFunc(u.Imports, func(name string) bool { return slices.Contains(m.exports(j), name) })
}

// order takes, again and again, of the units whose groups can be next all of the group that has the least key.
func (m model) order() []string {
	leads := closure(len(m.l), m.needs)
	group := func(i int) []string {
		var keys []string
		for j := range m.l {
			if i == j || leads(i, j) && leads(j, i) {
				keys = append(keys, keyOf(m.l[j]))
			}
		}
		slices.Sort(keys)
		return keys
	}
	var order []string
	for len(order) < len(m.l) {
		var next []string
		for i := range m.l {
			can := !slices.Contains(order, keyOf(m.l[i]))
			for j := range m.l {
				can = can && (!leads(i, j) || leads(j, i) || slices.Contains(order, keyOf(m.l[j])))
			}
			if g := group(i); can && (next == nil || g[0] < next[0]) {
				next = g
			}
		}
		order = append(order, next...)
	}
	return order
}

func isOrderByDefinition(l []api.Unit, order []string) bool {
	m := modelOf(l)
	leads := closure(len(l), m.needs)
	is := len(order) == len(l)
	for i, u := range l {
		at := slices.Index(order, keyOf(u))
		is = is && at >= 0
		for j, v := range l {
			is = is && (!m.needs(i, j) || leads(j, i) || slices.Index(order, keyOf(v)) < at)
		}
	}
	return is
}
