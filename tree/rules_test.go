package tree_test

import (
	"slices"
	"strings"
	"testing"

	"trestle/api"
	"trestle/scan"
	"trestle/tree"
)

// R1, R2, R4: any bytes and tokens are answered, twice alike, with nothing beside a fault.
func TestAnyTexts(t *testing.T) {
	g := newGenerator(61)
	words := append(anyWords(), "!", "(*", "007", "\"", "INTERFACE A;", "MODULE A; BEGIN", "END A.", "x :=", "f(")
	for range 8000 {
		var l []string
		for range g.IntN(12) {
			l = append(l, pick(g, words...))
		}
		src := strings.Join(l, pick(g, " ", "\n", ""))
		units, f := tree.Parse(src)
		again, af := tree.Parse(src)
		if f.Err != api.OK && len(units) > 0 || f.Err == api.OK && f.At != 0 || f != af || !sameUnits(units, again) {
			t.Fatalf("Parse(%q): %+v, %+v, and %+v, %+v", src, units, f, again, af)
		}
		for _, parse := range []func(string) ([]api.Node, api.Fault){tree.ParseExpr, tree.ParseType} {
			nodes, f := parse(src)
			again, af := parse(src)
			if (f.Err != api.OK) == (len(nodes) > 0) || f.Err == api.OK && f.At != 0 || f != af || !sameNodes(nodes, again) {
				t.Fatalf("a part %q: %s, %+v", src, shown(nodes), f)
			}
		}
	}
}

// R1, R2: units with any values are answered by all functions alike.
func TestAnyUnits(t *testing.T) {
	g := newGenerator(62)
	for range 3000 {
		u := g.unit(15)
		for range 1 + g.IntN(2) {
			u = spoiltUnit(g, u)
		}
		compareErrors(t, u, tree.Check(u))
	}
}

// spoiltUnit returns a unit in which something is another one than it was.
func spoiltUnit(g *generator, u api.Unit) api.Unit {
	lists := []*[]string{&u.Formals, &u.Actuals, &u.Exports, &u.Imports}
	u.Decls = slices.Clone(u.Decls)
	switch g.IntN(7) {
	case 0:
		u.Kind = uint8(g.IntN(4))
	case 1:
		u.Generic = !u.Generic
	case 2:
		*pick(g, &u.Name, &u.Of) = pick(g, strangeTexts...)
	case 3:
		list := pick(g, lists...)
		*list = append(slices.Clone(*list), pick(g, strangeTexts...))
	case 4:
		*pick(g, lists...) = nil
	case 5:
		if len(u.Body) > 0 {
			u.Body = spoilt(g, u.Body)
		}
	case 6:
		if len(u.Decls) > 0 {
			d := &u.Decls[g.IntN(len(u.Decls))]
			spoilDecl(g, d)
		}
	}
	return u
}

func spoilDecl(g *generator, d *api.Decl) {
	switch g.IntN(6) {
	case 0:
		d.Kind = uint8(g.IntN(10))
	case 1:
		*pick(g, &d.Name, &d.Unit) = pick(g, strangeTexts...)
	case 2:
		d.N = pick(g, strangeNumbers...)
	case 3:
		if len(d.Nodes) > 0 {
			d.Nodes = spoilt(g, d.Nodes)
		}
	case 4:
		if len(d.Body) > 0 {
			d.Body = spoilt(g, d.Body)
		}
	case 5:
		d.Nodes, d.Body = d.Body, d.Nodes
	}
}

// R3: nil slices and empty ones are the same.
func TestEmptySlices(t *testing.T) {
	g := newGenerator(63)
	for range 1000 {
		u := g.unit(15)
		full := filled(u)
		if tree.Check(full) != api.OK || mustPrint(t, []api.Unit{full}) != mustPrint(t, []api.Unit{u}) {
			t.Fatalf("a unit with empty slices: %+v", full)
		}
	}
}

// filled returns a unit with an empty slice in the place of each nil one.
func filled(u api.Unit) api.Unit {
	for _, list := range []*[]string{&u.Formals, &u.Actuals, &u.Exports, &u.Imports} {
		*list = append([]string{}, *list...)
	}
	nodes := func(l []api.Node) []api.Node {
		l = append([]api.Node{}, l...)
		for i := range l {
			l[i].Kids = append([]int{}, l[i].Kids...)
		}
		return l
	}
	u.Decls = append([]api.Decl{}, u.Decls...)
	for i := range u.Decls {
		u.Decls[i].Nodes, u.Decls[i].Body = nodes(u.Decls[i].Nodes), nodes(u.Decls[i].Body)
	}
	u.Body = nodes(u.Body)
	return u
}

// R3: arguments are not changed, and results share no memory with them or with each other.
func TestResultsAreNewMemory(t *testing.T) {
	g := newGenerator(64)
	for range 500 {
		u := g.unit(20)
		kept := filled(u)
		src := mustPrint(t, []api.Unit{u})
		if len(src) > api.MaxSource {
			continue
		}
		renamed, _ := tree.Renamed(u, []string{"Q"}, []string{"R"})
		first, second := mustParse(t, src)[0], mustParse(t, src)[0]
		for _, other := range []api.Unit{renamed, first} {
			overwrite(other)
			if !sameUnit(u, kept) || !sameUnit(second, kept) {
				t.Fatalf("a result shares memory: %+v", u)
			}
		}
	}
}

// overwrite changes all that is in the slices of a unit, each element once: what two of them shared would be changed twice.
func overwrite(u api.Unit) {
	for _, list := range [][]string{u.Formals, u.Actuals, u.Exports, u.Imports} {
		clear(list[:cap(list)])
	}
	for _, d := range u.Decls {
		clearNodes(d.Nodes)
		clearNodes(d.Body)
	}
	clear(u.Decls[:cap(u.Decls)])
	clearNodes(u.Body)
}

func clearNodes(l []api.Node) {
	for _, n := range l {
		clear(n.Kids[:cap(n.Kids)])
	}
	clear(l[:cap(l)])
}

// R3: no two slices of one result share memory: what is appended to one changes no other.
func TestSlicesOfOneResult(t *testing.T) {
	g := newGenerator(65)
	for range 500 {
		l := g.units(2, 30)
		src := looseText(g, l)
		if len(src) > api.MaxSource {
			continue
		}
		read := mustParse(t, src)
		for _, u := range read {
			growAll(u)
		}
		if !sameUnits(read, l) {
			t.Fatalf("slices of units share memory:\n%s", src)
		}
	}
}

// growAll appends to all slices of a unit, and leaves these as they are.
func growAll(u api.Unit) {
	for _, list := range [][]string{u.Formals, u.Actuals, u.Exports, u.Imports} {
		_ = append(list, "grown")
	}
	_ = append(u.Decls, api.Decl{Kind: 255})
	trees := [][]api.Node{u.Body}
	for _, d := range u.Decls {
		trees = append(trees, d.Nodes, d.Body)
	}
	for _, l := range trees {
		_ = append(l, api.Node{Kind: 255})
		for _, n := range l {
			_ = append(n.Kids, -1)
		}
	}
}

// T1: the pieces of printed text are blanks and tokens alone, so that nothing but blanks can be exchanged in it.
func TestPiecesOfPrint(t *testing.T) {
	g := newGenerator(66)
	for range 500 {
		src := mustPrint(t, g.units(2, 30))
		if len(src) > api.MaxSource {
			continue
		}
		bits, f := scan.Pieces(src)
		if f != (api.Fault{}) || slices.ContainsFunc(bits, func(b api.Bit) bool { return b.Kind > api.BitBlank }) {
			t.Fatalf("the pieces of\n%s", src)
		}
	}
}
