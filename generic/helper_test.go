package generic_test

import (
	"slices"
	"strings"
	"testing"

	"trestle/api"
	"trestle/generic"
	"trestle/tree"
)

// The units of the chapter's examples.
const (
	exampleA = "INTERFACE A; TYPE T = INTEGER; PROCEDURE eq(x: T; y: T): BOOLEAN; END A.\n"
	exampleG = "GENERIC INTERFACE G(E); TYPE S = REF ARRAY OF E.T; PROCEDURE has(s: S; x: E.T): BOOLEAN; END G.\n"
	exampleI = "INTERFACE I = G(A) END I.\n"
)

// parse returns the units of a source that has no fault.
func parse(t *testing.T, src string) []api.Unit {
	t.Helper()
	l, f := tree.Parse(src)
	if f != (api.Fault{}) {
		t.Fatalf("Parse: %+v, of\n%s", f, src)
	}
	return l
}

// unitOf returns the one unit of a source.
func unitOf(t *testing.T, src string) api.Unit {
	t.Helper()
	l := parse(t, src)
	if len(l) != 1 {
		t.Fatalf("%d units instead of one in %s", len(l), src)
	}
	return l[0]
}

// sameUnits, sameUnit and sameNodes compare what may have nil slices with what may have empty ones in their places.
func sameUnits(a, b []api.Unit) bool { return slices.EqualFunc(a, b, sameUnit) }

func sameUnit(a, b api.Unit) bool {
	return a.Kind == b.Kind && a.Name == b.Name && a.Unsafe == b.Unsafe && a.Generic == b.Generic && a.Of == b.Of &&
		slices.Equal(a.Formals, b.Formals) && slices.Equal(a.Actuals, b.Actuals) && slices.Equal(a.Exports, b.Exports) && slices.Equal(a.Imports, b.Imports) &&
		slices.EqualFunc(a.Decls, b.Decls, sameDecl) && sameNodes(a.Body, b.Body)
}

func sameDecl(a, b api.Decl) bool {
	return a.Kind == b.Kind && a.Unit == b.Unit && a.Name == b.Name && a.N == b.N && sameNodes(a.Nodes, b.Nodes) && sameNodes(a.Body, b.Body)
}

func sameNodes(a, b []api.Node) bool {
	return slices.EqualFunc(a, b, func(m, n api.Node) bool {
		return m.Kind == n.Kind && m.Name == n.Name && m.Unit == n.Unit && m.Var == n.Var && m.N == n.N && m.Type == n.Type && slices.Equal(m.Kids, n.Kids)
	})
}

// copyOf returns a unit that shares nothing with another one, and has empty slices in the place of nil ones.
func copyOf(u api.Unit) api.Unit {
	for _, list := range []*[]string{&u.Formals, &u.Actuals, &u.Exports, &u.Imports} {
		*list = append([]string{}, *list...)
	}
	nodes := func(l []api.Node) []api.Node {
		l = append([]api.Node{}, l...)
		for i := range l {
			l[i].Kids = append([]int{}, l[i].Kids...)
		}
		return l
	}
	u.Decls = append([]api.Decl{}, u.Decls...)
	for i := range u.Decls {
		u.Decls[i].Nodes, u.Decls[i].Body = nodes(u.Decls[i].Nodes), nodes(u.Decls[i].Body)
	}
	u.Body = nodes(u.Body)
	return u
}

func copiesOf(l []api.Unit) []api.Unit {
	c := []api.Unit{}
	for _, u := range l {
		c = append(c, copyOf(u))
	}
	return c
}

// shown returns wants as a text: each name with the first letters of its sorts.
func shown(l []api.Want) string {
	var parts []string
	for _, w := range l {
		sorts := ""
		for i, has := range []bool{w.Type, w.Exception, w.Procedure, w.Value} {
			if has {
				sorts += "tepv"[i : i+1]
			}
		}
		parts = append(parts, w.Name+":"+sorts)
	}
	return strings.Join(parts, " ")
}

// fault returns an error at an index or a place.
func fault(e api.Errno, at int) api.Fault { return api.Fault{Err: e, At: at} }

// fit is what Fits returns.
type fit struct {
	actual, name string
	f            api.Fault
}

func fits(l []api.Unit, i int) fit {
	actual, name, f := generic.Fits(l, i)
	return fit{actual, name, f}
}

// expectExpand holds Expand against the units, or the fault, that it should return.
func expectExpand(t *testing.T, src, want string, wantFault api.Fault) {
	t.Helper()
	got, f := generic.Expand(parse(t, src))
	if f != wantFault || !sameUnits(got, parse(t, want)) {
		t.Errorf("Expand of\n%s\nis %+v, %+v", src, got, f)
	}
}

// expectAsks holds what a unit asks of a qualifier against what it should.
func expectAsks(t *testing.T, u api.Unit, qualifier, want string) {
	t.Helper()
	l, e := generic.Asks(u, qualifier)
	if shown(l) != want || e != api.OK {
		t.Errorf("Asks(%s, %s): %q, error %d; expected %q", u.Name, qualifier, shown(l), e, want)
	}
}

// expectOffers holds what an interface offers against what it should.
func expectOffers(t *testing.T, l []api.Unit, name, want string, wantFault api.Fault) {
	t.Helper()
	w, f := generic.Offers(l, name)
	if shown(w) != want || f != wantFault {
		t.Errorf("Offers(%s): %q, %+v; expected %q, %+v", name, shown(w), f, want, wantFault)
	}
}

// expectFits holds Fits against what it should return.
func expectFits(t *testing.T, l []api.Unit, i int, want fit) {
	t.Helper()
	if got := fits(l, i); got != want {
		t.Errorf("Fits(%d): %+v; expected %+v", i, got, want)
	}
}

// manyNames returns so many different names of units.
func manyNames(n int) []string {
	var names []string
	for i := range n {
		names = append(names, "N"+string(rune('a'+i)))
	}
	return names
}
