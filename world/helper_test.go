package world_test

import (
	"fmt"
	"math/rand/v2"
	"slices"
	"testing"

	"trestle/api"
	"trestle/tree"
	"trestle/world"
)

// The units of the chapter's examples.
const (
	exampleA    = "INTERFACE A; CONST N = 2 * 3; TYPE T <: ROOT; VAR v: REF T; EXCEPTION E; PROCEDURE new(n: INTEGER): T RAISES {E}; END A.\n"
	exampleBody = "MODULE A; TYPE R = ROOT BRANDED \"r\" OBJECT n: [0 .. N]; END; REVEAL A.T = R; PROCEDURE new(n: INTEGER): T RAISES {E} = BEGIN RETURN NIL END new; END A.\n"
	exampleMain = "MODULE Main; IMPORT A; VAR t: A.T := NIL; BEGIN END Main.\n"
)

// random returns a source of chance that is the same in each run.
func random(seed uint64) *rand.Rand { return rand.New(rand.NewPCG(seed, 6)) }

func oneOf[T any](r *rand.Rand, l ...T) T { return l[r.IntN(len(l))] }

// parse returns the units of a source that has no fault.
func parse(t *testing.T, src string) []api.Unit {
	t.Helper()
	l, f := tree.Parse(src)
	if f != (api.Fault{}) {
		t.Fatalf("Parse: %+v, of\n%s", f, src)
	}
	return l
}

// expr and typ return the nodes of an expression, and of a type.
func expr(t *testing.T, src string) []api.Node {
	t.Helper()
	return parsed(t, src, tree.ParseExpr)
}

func typ(t *testing.T, src string) []api.Node {
	t.Helper()
	return parsed(t, src, tree.ParseType)
}

func parsed(t *testing.T, src string, read func(string) ([]api.Node, api.Fault)) []api.Node {
	t.Helper()
	l, f := read(src)
	if f != (api.Fault{}) {
		t.Fatalf("%+v, of %s", f, src)
	}
	return l
}

// qualified gives a qualifier to all names of values in nodes. (An expression alone is never read with one.)
func qualified(unit string, l []api.Node) []api.Node {
	for i := range l {
		if l[i].Kind == api.ExName {
			l[i].Unit = unit
		}
	}
	return l
}

// build returns the world of a source that has no fault.
func build(t *testing.T, src string) api.World {
	t.Helper()
	return worldOf(t, parse(t, src))
}

func worldOf(t *testing.T, l []api.Unit) api.World {
	t.Helper()
	w, f := world.Build(l)
	if f != (api.Fault{}) {
		t.Fatalf("Build: %+v, of\n%s", f, text(l))
	}
	return w
}

// open returns a view of a source that has no fault.
func open(t *testing.T, src string) *world.View {
	t.Helper()
	return viewOf(t, parse(t, src))
}

func viewOf(t *testing.T, l []api.Unit) *world.View {
	t.Helper()
	v, f := world.In(l)
	if f != (api.Fault{}) || v == nil {
		t.Fatalf("In: %+v, of\n%s", f, text(l))
	}
	return v
}

func fault(e api.Errno, at int) api.Fault { return api.Fault{Err: e, At: at} }

// expectFault holds Build and In of units against the fault that they should have.
func expectFault(t *testing.T, l []api.Unit, want api.Fault) {
	t.Helper()
	w, f := world.Build(l)
	if f != want || shown(w) != shown(api.World{}) {
		t.Errorf("Build has %+v and %s, not %+v, of\n%s", f, shown(w), want, text(l))
	}
	if v, f := world.In(l); f != want || v != nil {
		t.Errorf("In has %+v, not %+v, of\n%s", f, want, text(l))
	}
}

// faults holds sources against their faults.
func faults(t *testing.T, table map[string]api.Fault) {
	t.Helper()
	for src, want := range table {
		expectFault(t, parse(t, src), want)
	}
}

// expect holds what was found against what should be; nil slices and empty ones are the same.
func expect[T any](t *testing.T, what string, got, want T) {
	t.Helper()
	if shown(got) != shown(want) {
		t.Errorf("%s: %s instead of %s", what, shown(got), shown(want))
	}
}

func shown(x any) string { return fmt.Sprintf("%+v", x) }

// text returns units as a text, for messages.
func text(l []api.Unit) string {
	if s, e := tree.Print(l); e == api.OK {
		return s
	}
	return shown(l)
}

// shuffled returns units in another order.
func shuffled(r *rand.Rand, l []api.Unit) []api.Unit {
	l = slices.Clone(l)
	r.Shuffle(len(l), func(i, j int) { l[i], l[j] = l[j], l[i] })
	return l
}

// copyOf returns a unit that shares nothing with another one, and has empty slices in the place of nil ones.
func copyOf(u api.Unit) api.Unit {
	for _, list := range []*[]string{&u.Formals, &u.Actuals, &u.Exports, &u.Imports} {
		*list = append([]string{}, *list...)
	}
	u.Decls = append([]api.Decl{}, u.Decls...)
	for i := range u.Decls {
		u.Decls[i].Nodes, u.Decls[i].Body = copyOfNodes(u.Decls[i].Nodes), copyOfNodes(u.Decls[i].Body)
	}
	u.Body = copyOfNodes(u.Body)
	return u
}

func copyOfNodes(l []api.Node) []api.Node {
	l = append([]api.Node{}, l...)
	for i := range l {
		l[i].Kids = append([]int{}, l[i].Kids...)
	}
	return l
}

func copiesOf(l []api.Unit) []api.Unit {
	c := []api.Unit{}
	for _, u := range l {
		c = append(c, copyOf(u))
	}
	return c
}
