package world_test

import (
	"fmt"
	"math/rand/v2"
	"slices"
	"strconv"
	"strings"

	"trestle/api"
	"trestle/tree"
)

// generator makes libraries by chance, most of which have no fault: interfaces A, B and C, each of which imports some of those ahead of it, and modules.
type generator struct{ *rand.Rand }

// pick is oneOf with the generator's chance.
func pick[T any](g *generator, from ...T) T { return oneOf(g.Rand, from...) }

// libraries calls f with libraries that have no fault.
func libraries(seed uint64, count int, f func(g *generator, l []api.Unit)) {
	g := &generator{random(seed)}
	for count > 0 {
		if l := g.library(); len(l) > 0 && faultsByDefinition(l)[0] == (api.Fault{}) {
			f(g, l)
			count--
		}
	}
}

// anyLibraries calls f with libraries, many of which are spoiled.
func anyLibraries(seed uint64, count int, f func(g *generator, l []api.Unit)) {
	g := &generator{random(seed)}
	for range count {
		l := g.library()
		for range g.IntN(3) {
			l = g.spoiled(l)
		}
		f(g, l)
	}
}

// sorts are those of names: of an int and a bool, a type, an object type, an opaque type, a variable, an exception, a procedure.
const sorts = "ibtoqvep"

// heads are signatures, with "@" ahead of the names of the unit in which they stand.
type head struct {
	args   []string
	result string
	raises []string
}

// sketch is a unit that is being written.
type sketch struct {
	kind, name       string
	unsafe           bool
	imports, exports []string
	names            map[byte][]string // what it declares
	heads            map[string]head
	decls            []string
}

func (g *generator) library() []api.Unit {
	var all []*sketch
	for _, name := range []string{"A", "B", "C"} {
		if g.IntN(6) > 0 {
			s := &sketch{kind: "INTERFACE", name: name, imports: g.some(namesOf(all)), unsafe: g.IntN(12) == 0}
			all = append(all, s)
		}
	}
	interfaces := slices.Clone(all)
	for _, name := range []string{"A", "B", "C", "M", "N"} {
		if g.IntN(8) > 0 {
			s := &sketch{kind: "MODULE", name: name, imports: g.some(namesOf(interfaces))}
			if find(interfaces, name) == nil {
				s.exports = g.some(namesOf(interfaces))
			} else if g.IntN(6) == 0 {
				s.exports = append(g.some(without(namesOf(interfaces), name)), name)
			}
			all = append(all, s)
		}
	}
	for _, s := range all {
		g.name(s)
	}
	for i, s := range all {
		for _, name := range seen(all, s) {
			s.unsafe = s.unsafe || find(interfaces, name).unsafe
		}
		g.write(all[:i], s)
	}
	for _, s := range interfaces {
		g.implement(all, s)
	}
	var l []api.Unit
	for _, s := range all {
		l = append(l, g.read(s))
	}
	return shuffled(g.Rand, l)
}

func namesOf(l []*sketch) []string {
	var names []string
	for _, s := range l {
		names = append(names, s.name)
	}
	return names
}

func without(l []string, name string) []string {
	return slices.DeleteFunc(slices.Clone(l), func(s string) bool { return s == name })
}

// some returns some of a list.
func (g *generator) some(l []string) []string {
	var part []string
	for _, x := range l {
		if g.IntN(2) == 0 {
			part = append(part, x)
		}
	}
	return part
}

// find returns the interface with a name.
func find(l []*sketch, name string) *sketch {
	for _, s := range l {
		if s.kind == "INTERFACE" && s.name == name {
			return s
		}
	}
	return nil
}

// exported returns the interfaces that a unit exports, seen also those that it imports.
func exported(all []*sketch, s *sketch) []string {
	if s.kind == "MODULE" && len(s.exports) == 0 && find(all, s.name) != nil {
		return []string{s.name}
	}
	return s.exports
}

func seen(all []*sketch, s *sketch) []string {
	return slices.Concat(s.imports, exported(all, s))
}

// name gives a unit names of all sorts. Some of B are those of A, those of C and of modules are others.
func (g *generator) name(s *sketch) {
	s.names, s.heads = map[byte][]string{}, map[string]head{}
	for _, sort := range []byte(sorts) {
		if sort == 'q' && s.kind == "MODULE" {
			continue
		}
		for k := range g.IntN(3) {
			name := string(sort) + strconv.Itoa(k+1)
			switch {
			case s.kind == "MODULE":
				name = "m" + name
			case s.name == "C":
				name += "x"
			case s.name == "B" && g.IntN(8) > 0:
				name += "y"
			}
			s.names[sort] = append(s.names[sort], name)
		}
	}
}

// visible returns how a unit can write names of some sorts; of its own ones only some.
func (g *generator) visible(ahead []*sketch, s *sketch, sorts string, own func(string) bool) []string {
	var l []string
	for _, sort := range []byte(sorts) {
		for _, name := range s.names[sort] {
			if own(name) {
				l = append(l, "@"+name)
			}
		}
		for _, unit := range seen(ahead, s) {
			for _, name := range find(ahead, unit).names[sort] {
				l = append(l, unit+"."+name)
				if slices.Contains(exported(ahead, s), unit) {
					l = append(l, "@"+name)
				}
			}
		}
	}
	return l
}

// writer writes what stands in a unit, where names of constants and some names of types are those of what was written ahead.
type writer struct {
	*generator
	ahead []*sketch
	in    *sketch
	done  []string
}

func (w *writer) isDone(name string) bool { return slices.Contains(w.done, name) }

func isAny(string) bool { return true }

// pickName returns a name of some sorts, or something else if there is none.
func (w *writer) pickName(sorts string, own func(string) bool, other string) string {
	l := w.visible(w.ahead, w.in, sorts, own)
	if len(l) == 0 {
		return other
	}
	return pick(w.generator, l...)
}

// write writes the declarations of a unit, but for the procedures of interfaces that it implements.
func (g *generator) write(ahead []*sketch, s *sketch) {
	w := &writer{g, ahead, s, nil}
	for _, sort := range []byte(sorts) {
		for _, name := range s.names[sort] {
			s.decls = append(s.decls, w.decl(sort, name))
			w.done = append(w.done, name)
		}
	}
	for _, name := range w.visible(ahead, s, "q", isAny) {
		if g.IntN(4) == 0 {
			s.decls = append(s.decls, "REVEAL "+name+" <: "+pick(g, "ROOT", "REFANY", "REF "+w.typ(1), w.object())+";")
		}
		if g.IntN(4) == 0 {
			s.decls = append(s.decls, "REVEAL "+name+" = "+pick(g, "BRANDED \"b\" REF "+w.typ(1), "ROOT BRANDED \"c\" OBJECT END", "MUTEX BRANDED \"d\" OBJECT x: INTEGER; END")+";")
		}
	}
}

func (w *writer) decl(sort byte, name string) string {
	switch sort {
	case 'i':
		return "CONST " + name + " = " + w.number(2) + ";"
	case 'b':
		return "CONST " + name + " = " + w.truth(2) + ";"
	case 't':
		return "TYPE " + name + " = " + pick(w.generator, w.typ(2), w.pickName("toq", w.isDone, "INTEGER")) + ";"
	case 'o':
		return "TYPE " + name + " = " + w.object() + ";"
	case 'q':
		return "TYPE " + name + " <: " + pick(w.generator, "ROOT", "MUTEX", "REFANY", w.pickName("oq", w.isDone, "ROOT")) + ";"
	case 'v':
		return "VAR " + name + ": " + w.typ(2) + pick(w.generator, "", " := nothing") + ";"
	case 'e':
		return "EXCEPTION " + name + ";"
	}
	h := w.head()
	w.in.heads[name] = h
	if w.in.kind == "MODULE" {
		return "PROCEDURE " + name + w.sig(h) + " = BEGIN nothing() END " + name + ";"
	}
	return "PROCEDURE " + name + w.sig(h) + ";"
}

func (w *writer) number(depth int) string {
	if depth == 0 || w.IntN(3) == 0 {
		if w.IntN(40) == 0 {
			return "1000000000"
		}
		return pick(w.generator, "0", "1", "2", "7", "16_F", w.pickName("i", w.isDone, "3"), w.pickName("i", w.isDone, "4"))
	}
	x, y := "("+w.number(depth-1)+")", "("+w.number(depth-1)+")"
	return pick(w.generator, "-"+x, x+" + "+y, x+" - "+y, x+" * 3", x+" DIV 7", x+" MOD 5", x+" DIV -2", x+" MOD -4")
}

func (w *writer) truth(depth int) string {
	if depth == 0 || w.IntN(3) == 0 {
		return pick(w.generator, "TRUE", "FALSE", w.pickName("b", w.isDone, "TRUE"))
	}
	x, y := "("+w.truth(depth-1)+")", "("+w.truth(depth-1)+")"
	i, j := "("+w.number(depth-1)+")", "("+w.number(depth-1)+")"
	return pick(w.generator, "NOT "+x, x+" AND "+y, x+" OR "+y, x+" = "+y, x+" # "+y, i+" < "+j, i+" <= "+j, i+" = "+j, i+" # "+j)
}

func (w *writer) typ(depth int) string {
	if depth == 0 || w.IntN(3) == 0 {
		return pick(w.generator, "INTEGER", "BOOLEAN", "REFANY", "NULL", "ROOT", "CONDITION", "[0 .. 3]", "["+w.pickName("i", isAny, "5")+" MOD 4 .. 5]", w.pickName("toq", isAny, "MUTEX"), w.pickName("toq", isAny, "MUTEX"))
	}
	brand := pick(w.generator, "", "", "BRANDED \"b\" ")
	return pick(w.generator, brand+"REF "+w.typ(depth-1), brand+"REF ARRAY OF "+w.typ(depth-1), brand+"REF RECORD "+w.fields(depth-1)+"f: INTEGER; END", w.object())
}

func (w *writer) fields(depth int) string {
	s := ""
	for _, name := range pick(w.generator, nil, []string{"a"}, []string{"b", "a"}) {
		s += name + ": " + w.typ(depth) + "; "
	}
	return s
}

func (w *writer) object() string {
	s := pick(w.generator, "ROOT", "MUTEX", w.pickName("oq", w.isDone, "ROOT")) + pick(w.generator, "", " BRANDED \"o\"") + " OBJECT " + w.fields(0)
	if w.IntN(2) == 0 {
		s += "METHODS m" + w.sig(w.head()) + "; n() := " + w.pickName("p", isAny, "") + "; "
		s = strings.ReplaceAll(s, " := ;", ";")
	}
	if p := w.pickName("p", isAny, ""); p != "" && w.IntN(2) == 0 {
		s += "OVERRIDES k := " + p + "; "
	}
	return s + "END"
}

func (w *writer) head() head {
	h := head{result: pick(w.generator, "", w.typ(0), w.typ(0))}
	for range w.IntN(3) {
		h.args = append(h.args, w.typ(w.IntN(2)))
	}
	for range w.IntN(3) {
		h.raises = append(h.raises, w.pickName("e", isAny, "ALERTED"))
	}
	return h
}

// sig writes a signature, with any names of parameters, and what it raises in any order.
func (g *generator) sig(h head) string {
	var args []string
	for _, x := range h.args {
		args = append(args, pick(g, "a", "b", "c")+": "+x)
	}
	s := "(" + strings.Join(args, "; ") + ")"
	if h.result != "" {
		s += ": " + h.result
	}
	raises := slices.Clone(h.raises)
	if len(raises) > 0 && g.IntN(3) == 0 {
		raises = append(raises, raises[0])
	}
	g.Shuffle(len(raises), func(i, j int) { raises[i], raises[j] = raises[j], raises[i] })
	return s + " RAISES {" + strings.Join(raises, ", ") + "}"
}

// implement writes the procedures of an interface into modules that export it.
func (g *generator) implement(all []*sketch, s *sketch) {
	var by []*sketch
	for _, m := range all {
		if slices.Contains(exported(all, m), s.name) {
			by = append(by, m)
		}
	}
	if len(by) == 0 {
		return
	}
	for _, name := range s.names['p'] {
		m := pick(g, by...)
		for _, i := range s.imports {
			if !slices.Contains(m.imports, i) {
				m.imports = append(m.imports, i)
			}
			m.unsafe = m.unsafe || find(all, i).unsafe
		}
		d := "PROCEDURE " + name + g.sig(s.heads[name]) + " = BEGIN nothing() END " + name + ";"
		for strings.Contains(d, "@") {
			d = strings.Replace(d, "@", pick(g, "", s.name+"."), 1)
		}
		m.decls = append(m.decls, d)
	}
}

// read returns the unit of a sketch.
func (g *generator) read(s *sketch) api.Unit {
	g.Shuffle(len(s.decls), func(i, j int) { s.decls[i], s.decls[j] = s.decls[j], s.decls[i] })
	src := s.kind + " " + s.name
	if s.unsafe {
		src = "UNSAFE " + src
	}
	if len(s.exports) > 0 {
		src += " EXPORTS " + strings.Join(s.exports, ", ")
	}
	src += ";\n"
	if len(s.imports) > 0 {
		src += "IMPORT " + strings.Join(s.imports, ", ") + ";\n"
	}
	// What a module exports by its Name alone is imported while it is read, so that its name is read as a qualifier.
	lone := s.kind == "MODULE" && len(s.exports) == 0 && !slices.Contains(s.imports, s.name)
	if lone {
		src += "IMPORT " + s.name + ";\n"
	}
	src += strings.ReplaceAll(strings.Join(s.decls, "\n"), "@", "") + "\nEND " + s.name + "."
	l, f := tree.Parse(src)
	if f.Err != api.OK || len(l) != 1 {
		panic(fmt.Sprintf("%+v, of\n%s", f, src))
	}
	if lone {
		l[0].Imports = l[0].Imports[:len(s.imports)]
	}
	return l[0]
}

// typeNames returns names of types as they can stand in a unit.
func (g *generator) typeNames(l []api.Unit, i int) []api.Node {
	var names []api.Node
	m := modelOf(l)
	for _, unit := range append(m.sees(i), "") {
		from := l[i].Decls
		if unit != "" {
			from = l[m.find(api.UnInterface, unit)].Decls
		}
		for _, d := range from {
			if d.Kind == api.DcType || d.Kind == api.DcOpaque {
				names = append(names, api.Node{Kind: api.TyName, Unit: unit, Name: d.Name})
			}
		}
	}
	return names
}

// spoiled returns a library in which something is changed.
func (g *generator) spoiled(l []api.Unit) []api.Unit {
	l = copiesOf(l)
	if len(l) == 0 {
		return l
	}
	i := g.IntN(len(l))
	u := &l[i]
	switch g.IntN(20) {
	case 0:
		return slices.Delete(l, i, i+1)
	case 1:
		u.Unsafe = !u.Unsafe
	case 2:
		u.Imports = pick(g, nil, []string{"A"}, []string{"B", "A"}, []string{"C"}, []string{"Cx"})
	case 3:
		if u.Kind == api.UnModule {
			u.Exports = pick(g, nil, []string{"A"}, []string{"B", "A"}, []string{"C", "B"})
		}
	default:
		g.spoilDecl(l)
	}
	return l
}

// anyName returns a name that is declared somewhere, or another one.
func (g *generator) anyName(l []api.Unit) string {
	names := []string{"zz"}
	for _, u := range l {
		for _, d := range u.Decls {
			names = append(names, d.Name)
		}
	}
	return pick(g, names...)
}

// declOf returns a declaration of some kinds, and its unit; or nil.
func (g *generator) declOf(l []api.Unit, kinds ...uint8) (*api.Unit, int) {
	for range 50 {
		u := &l[g.IntN(len(l))]
		if len(u.Decls) == 0 {
			continue
		}
		if k := g.IntN(len(u.Decls)); slices.Contains(kinds, u.Decls[k].Kind) {
			return u, k
		}
	}
	return nil, 0
}

func (g *generator) spoilDecl(l []api.Unit) {
	kinds := pick(g, []uint8{api.DcConst, api.DcType, api.DcOpaque, api.DcVar, api.DcExcept, api.DcProc, api.DcReveal}, []uint8{api.DcProc}, []uint8{api.DcReveal}, []uint8{api.DcType, api.DcVar}, []uint8{api.DcType, api.DcOpaque})
	u, k := g.declOf(l, kinds...)
	if u == nil {
		return
	}
	name := g.anyName(l)
	d := &u.Decls[k]
	switch g.IntN(16) {
	case 0:
		u.Decls = slices.Delete(u.Decls, k, k+1)
	case 1:
		if to, at := g.declOf(l, kinds...); to != nil && to.Kind == u.Kind && len(to.Decls) < api.MaxDecls {
			to.Decls = slices.Insert(to.Decls, at, copyOf(api.Unit{Decls: []api.Decl{*d}}).Decls[0])
		}
	case 2:
		d.Name = name
	case 3, 4, 5:
		if d.Kind == api.DcReveal {
			d.N = 1 - d.N
		}
	default:
		g.spoilNode(d.Nodes, name, pick(g, "", "A", "B", "C", "M"))
	}
}

// spoilNode changes something in a node, so that nodes are a tree still.
func (g *generator) spoilNode(l []api.Node, name, unit string) {
	if len(l) == 0 {
		return
	}
	n := &l[g.IntN(len(l))]
	switch n.Kind {
	case api.TyName, api.ExName:
		n.Name, n.Unit = pick(g, n.Name, name, name), pick(g, n.Unit, n.Unit, unit)
	case api.NdRaise:
		n.Name, n.Unit = pick(g, "ALERTED", name), ""
	case api.NdField, api.NdMethod, api.NdOver, api.NdParam:
		n.Name = pick(g, "a", "f", "m", "n", "k")
	case api.ExInt:
		n.N = pick(g, 0, 1, 9, 1000000000)
	case api.ExBool:
		*n = pick(g, api.Node{Kind: api.ExNil}, api.Node{Kind: api.ExInt, N: 3}, api.Node{Kind: api.ExName, Unit: unit, Name: name})
	case api.TyPlain:
		n.Name = map[bool]string{true: pick(g, "ROOT", "MUTEX"), false: pick(g, "INTEGER", "BOOLEAN", "NULL")}[n.Name == "ROOT" || n.Name == "MUTEX"]
		if g.IntN(3) == 0 {
			*n = api.Node{Kind: api.TyName, Unit: unit, Name: name}
		}
	case api.ExOp:
		if len(n.Kids) == 2 {
			n.Name = pick(g, "+", "-", "*", "DIV", "MOD", "<", "<=", "=", "#", "AND", "OR")
		}
	}
}
