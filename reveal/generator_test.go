package reveal_test

import (
	"fmt"
	"math/rand/v2"
	"slices"
	"strconv"
	"strings"

	"trestle/api"
	"trestle/tree"
)

// generator makes libraries by chance, many of which have no fault: interfaces A, B and C, each of which imports some of those ahead of it, and modules.
type generator struct {
	*rand.Rand
	units []*sketch
	count int // of names
}

// pick is oneOf with the generator's chance.
func pick[T any](g *generator, from ...T) T { return oneOf(g.Rand, from...) }

// sketch is a unit that is being written.
type sketch struct {
	at               int
	kind, name       string
	imports, exports []string
	decls            []string
}

// named is a type with a name, and the unit that declares it (nil: a plain one).
type named struct {
	in   *sketch
	name string
}

// libraries calls f with libraries that have no fault.
func libraries(seed uint64, count int, f func(g *generator, l []api.Unit)) {
	g := &generator{Rand: random(seed)}
	for count > 0 {
		l := g.library(40)
		if f0, _ := faultByDefinition(l); f0.Err == api.OK {
			f(g, l)
			count--
		}
	}
}

// anyLibraries calls f with libraries, most of which are spoiled.
func anyLibraries(seed uint64, count int, f func(g *generator, l []api.Unit)) {
	g := &generator{Rand: random(seed)}
	for range count {
		l := g.library(pick(g, 3, 8, 40))
		for range g.IntN(3) {
			l = g.spoiled(l)
		}
		f(g, l)
	}
}

// library returns units in which, but for one time of some, revelations are such as may be.
func (g *generator) library(times int) []api.Unit {
	g.units, g.count = nil, 0
	for _, name := range []string{"A", "B", "C"} {
		g.units = append(g.units, &sketch{at: len(g.units), kind: "INTERFACE", name: name})
	}
	for _, name := range []string{"A", "M", "N"} {
		s := &sketch{at: len(g.units), kind: "MODULE", name: name}
		if name != "A" {
			s.exports = pick(g, nil, nil, []string{"B"}, []string{"C", "A"})
		}
		g.units = append(g.units, s)
	}
	bounds := []named{{nil, "ROOT"}, {nil, "ROOT"}, {nil, "MUTEX"}, {nil, "REFANY"}}
	for range g.IntN(4) {
		t := named{g.units[g.IntN(3)], g.newName("T")}
		bound := pick(g, bounds...)
		for bound.in != nil && bound.in.at > t.in.at {
			bound = pick(g, bounds...)
		}
		t.in.add("TYPE " + t.name + " <: " + t.in.write(bound) + ";")
		bounds = append(bounds, t, t)
		g.reveal(t, bound, times)
	}
	for range g.IntN(4) {
		u := pick(g, g.units...)
		u.add("VAR " + g.newName("v") + ": " + g.anyType(u) + ";")
		u.add("TYPE " + g.newName("S") + " = " + g.anyType(u) + ";")
	}
	for _, u := range g.units {
		for _, other := range g.units[:min(u.at, 3)] {
			if g.IntN(4) == 0 {
				u.use(other)
			}
		}
	}
	var l []api.Unit
	for _, u := range g.units {
		if len(u.decls) > 0 || u.kind == "INTERFACE" {
			l = append(l, u.read())
		}
	}
	return shuffled(g.Rand, l)
}

func (g *generator) newName(letter string) string {
	g.count++
	return letter + strconv.Itoa(g.count)
}

func (s *sketch) add(decl string) { s.decls = append(s.decls, decl) }

// use lets a unit import an interface, if it does not export it.
func (s *sketch) use(u *sketch) {
	if u != s && !slices.Contains(s.imports, u.name) {
		s.imports = append(s.imports, u.name)
	}
}

// write returns how a type is written in a unit.
func (s *sketch) write(t named) string {
	if t.in == nil || t.in == s {
		return t.name
	}
	s.use(t.in)
	return t.in.name + "." + t.name
}

// mayName reports whether types can be named in a unit.
func (s *sketch) mayName(l ...named) bool {
	for _, t := range l {
		if t.in != nil && t.in != s && (t.in.kind == "MODULE" || t.in.at > s.at) {
			return false
		}
	}
	return true
}

// host returns a unit in which types can be named.
func (g *generator) host(l ...named) *sketch {
	for {
		if u := pick(g, g.units...); u.mayName(l...) {
			return u
		}
	}
}

// reveal makes what an opaque type is, from its bound downwards, and reveals it.
func (g *generator) reveal(t, bound named, times int) {
	at := bound
	row := []named{bound}
	isObject := bound.name != "REFANY" || g.IntN(2) == 0
	for range g.IntN(4) {
		if !isObject {
			break
		}
		next := named{g.host(t, at), g.newName("P")}
		next.in.add("TYPE " + next.name + " = " + g.object(next.in, at, "", t) + ";")
		row, at = append(row, next), next
	}
	for range g.IntN(5) {
		to := pick(g, row...)
		if g.IntN(times) == 0 {
			to = pick(g, t, named{nil, "MUTEX"}, named{nil, "CONDITION"}, named{nil, "REF " + t.name}, to)
		}
		if u := g.host(t, to); !strings.HasPrefix(to.name, "REF ") || u == t.in {
			u.add("REVEAL " + u.write(t) + " <: " + u.write(to) + ";")
		}
	}
	u := g.host(t, at)
	full := "BRANDED \"r\" REF " + pick(g, u.write(t), "INTEGER")
	if isObject {
		full = g.object(u, at, " BRANDED \""+pick(g, "a", "b", t.name)+"\"", t)
	}
	if g.IntN(times) == 0 {
		full = pick(g, "ROOT BRANDED \"x\" OBJECT END", "BRANDED \"y\" REF "+u.write(t), u.write(t)+" BRANDED \"z\" OBJECT END")
	}
	if g.IntN(2) == 0 {
		name := g.newName("R")
		u.add("TYPE " + name + " = " + full + ";")
		full = name
	}
	if g.IntN(times) > 0 {
		u.add("REVEAL " + u.write(t) + " = " + full + ";")
	}
}

// object returns an object type below another one.
func (g *generator) object(u *sketch, super named, brand string, t named) string {
	name := u.write(super)
	if name == "REFANY" {
		name = "ROOT"
	}
	s := name + brand + " OBJECT "
	for _, field := range pick(g, nil, []string{"x"}, []string{"x", "y"}) {
		s += field + ": " + pick(g, u.write(t), "INTEGER", "REF "+u.write(t), name) + "; "
	}
	if g.IntN(3) == 0 {
		s += "METHODS m(a: " + pick(g, u.write(t), "BOOLEAN") + "; b: " + name + ")" + pick(g, "", ": "+u.write(t)) + pick(g, "", " RAISES {ALERTED}") + "; "
	}
	return s + "END"
}

// anyType returns a type that can stand in a unit.
func (g *generator) anyType(u *sketch) string {
	var l []string
	for _, other := range g.units {
		for _, d := range other.decls {
			if w := strings.Fields(d); w[0] == "TYPE" && u.mayName(named{other, w[1]}) {
				l = append(l, u.write(named{other, w[1]}))
			}
		}
	}
	name := pick(g, append(l, "INTEGER", "ROOT")...)
	return pick(g, name, "REF "+name, "REF ARRAY OF "+name, "REF RECORD a: "+name+"; b: "+pick(g, append(l, "NULL")...)+"; END")
}

// read returns the unit of a sketch. What a module exports need not be imported.
func (s *sketch) read() api.Unit {
	src := s.kind + " " + s.name
	if len(s.exports) > 0 {
		src += " EXPORTS " + strings.Join(s.exports, ", ")
	}
	src += ";\n"
	var imports []string
	for _, name := range s.imports {
		if !slices.Contains(s.exports, name) && (s.kind == "INTERFACE" || s.name != name) {
			imports = append(imports, name)
		}
	}
	if len(imports) > 0 {
		src += "IMPORT " + strings.Join(imports, ", ") + ";\n"
	}
	src += strings.Join(s.decls, "\n") + "\nEND " + s.name + "."
	l, f := tree.Parse(src)
	if f.Err != api.OK || len(l) != 1 {
		panic(fmt.Sprintf("%+v, of\n%s", f, src))
	}
	return l[0]
}

// declsOf returns where declarations of a Kind stand.
func declsOf(l []api.Unit, kind uint8) [][2]int {
	var at [][2]int
	for i, u := range l {
		for k, d := range u.Decls {
			if d.Kind == kind {
				at = append(at, [2]int{i, k})
			}
		}
	}
	return at
}

// spoiled returns a library in which something of opaque types is changed.
func (g *generator) spoiled(l []api.Unit) []api.Unit {
	l = copiesOf(l)
	reveals, opaques := declsOf(l, api.DcReveal), declsOf(l, api.DcOpaque)
	if len(reveals) == 0 || len(opaques) == 0 {
		return l
	}
	r, o := pick(g, reveals...), pick(g, opaques...)
	d := &l[r[0]].Decls[r[1]]
	other := pick(g, reveals...)
	switch g.IntN(8) {
	case 0:
		l[r[0]].Decls = slices.Delete(l[r[0]].Decls, r[1], r[1]+1)
	case 1:
		to := &l[pick(g, r[0], other[0])].Decls
		*to = slices.Insert(*to, g.IntN(len(*to)+1), copiesOf([]api.Unit{{Decls: []api.Decl{*d}}})[0].Decls[0])
	case 2, 3:
		d.N = 1 - d.N
	case 4:
		d.Nodes = copyOfNodes(l[other[0]].Decls[other[1]].Nodes)
	case 5:
		d.Unit, d.Name = l[other[0]].Decls[other[1]].Unit, l[other[0]].Decls[other[1]].Name
	case 6:
		l[o[0]].Decls[o[1]].Nodes = []api.Node{{Kind: api.TyPlain, Name: pick(g, "ROOT", "MUTEX", "CONDITION", "REFANY")}}
	case 7:
		d.Nodes = []api.Node{{Kind: api.TyPlain, Name: pick(g, "ROOT", "MUTEX", "REFANY")}}
	}
	return l
}
