package reveal_test

import (
	"fmt"
	"math/rand/v2"
	"slices"
	"strings"
	"testing"

	"trestle/api"
	"trestle/reveal"
	"trestle/sub"
	"trestle/tree"
	"trestle/types"
)

// The units of the chapter's examples.
const (
	exampleA    = "INTERFACE A; CONST N = 2 * 3; TYPE T <: ROOT; VAR v: REF T; EXCEPTION E; PROCEDURE new(n: INTEGER): T RAISES {E}; END A.\n"
	exampleBody = "MODULE A; TYPE R = ROOT BRANDED \"r\" OBJECT n: [0 .. N]; END; REVEAL A.T = R; PROCEDURE new(n: INTEGER): T RAISES {E} = BEGIN RETURN NIL END new; END A.\n"
	exampleMain = "MODULE Main; IMPORT A; VAR t: A.T := NIL; BEGIN END Main.\n"
	example     = exampleA + exampleBody + exampleMain
)

// random returns a source of chance that is the same in each run.
func random(seed uint64) *rand.Rand { return rand.New(rand.NewPCG(seed, 7)) }

func oneOf[T any](r *rand.Rand, l ...T) T { return l[r.IntN(len(l))] }

// parse returns the units of a source that has no fault.
func parse(t *testing.T, src string) []api.Unit {
	t.Helper()
	l, f := tree.Parse(src)
	if f != (api.Fault{}) {
		t.Fatalf("Parse: %+v, of\n%s", f, src)
	}
	return l
}

// open returns a sight of a source that has no fault.
func open(t *testing.T, src string) *reveal.Sight {
	t.Helper()
	return sightOf(t, parse(t, src))
}

func sightOf(t *testing.T, l []api.Unit) *reveal.Sight {
	t.Helper()
	s, f := reveal.In(l)
	if f != (api.Fault{}) || s == nil {
		t.Fatalf("In: %+v, of\n%s", f, text(l))
	}
	return s
}

func fault(e api.Errno, at int) api.Fault { return api.Fault{Err: e, At: at} }

// expectFault holds Check and In of units against the fault that they should have.
func expectFault(t *testing.T, l []api.Unit, want api.Fault) {
	t.Helper()
	if f := reveal.Check(l); f != want {
		t.Errorf("Check has %+v, not %+v, of\n%s", f, want, text(l))
	}
	if s, f := reveal.In(l); f != want || (s == nil) != (want.Err != api.OK) {
		t.Errorf("In has %v and %+v, not %+v, of\n%s", s, f, want, text(l))
	}
}

// check is a source, and the fault that it should have.
type check struct {
	src  string
	want api.Fault
}

func expectFaults(t *testing.T, table ...check) {
	t.Helper()
	for _, c := range table {
		expectFault(t, parse(t, c.src), c.want)
	}
}

// must returns what a call returned without an error.
func must[T any](t *testing.T, x T, e api.Errno) T {
	t.Helper()
	if e != api.OK {
		t.Fatalf("the error %v", e)
	}
	return x
}

// The methods of a sight, of which no error is expected.
func realOf(t *testing.T, s *reveal.Sight, i int) int {
	t.Helper()
	x, e := s.Real(i)
	return must(t, x, e)
}

func concrete(t *testing.T, s *reveal.Sight) api.Graph {
	t.Helper()
	x, e := s.Concrete()
	return must(t, x, e)
}

func printOf(t *testing.T, s *reveal.Sight, i int) string {
	t.Helper()
	x, e := s.Print(i)
	return must(t, x, e)
}

func sees(t *testing.T, s *reveal.Sight, unit int) []api.Reveal {
	t.Helper()
	x, e := s.Sees(unit)
	return must(t, x, e)
}

func env(t *testing.T, s *reveal.Sight, unit int) *sub.Env {
	t.Helper()
	x, e := s.Env(unit)
	if x == nil {
		t.Fatalf("Env has nothing, and %v", e)
	}
	return must(t, x, e)
}

func line(t *testing.T, s *reveal.Sight, i int) []int {
	t.Helper()
	x, e := s.Line(i)
	return must(t, x, e)
}

func known(t *testing.T, s *reveal.Sight, unit, i int) int {
	t.Helper()
	x, e := s.Known(unit, i)
	return must(t, x, e)
}

func worldOf(t *testing.T, s *reveal.Sight) api.World {
	t.Helper()
	x, e := s.World()
	return must(t, x, e)
}

// envOf returns the environment of a graph and revelations.
func envOf(t *testing.T, g api.Graph, l []api.Reveal) *sub.Env {
	t.Helper()
	v, e := sub.In(g, l)
	return must(t, v, e)
}

// below asks an environment that has both types.
func below(t *testing.T, v *sub.Env, a, b int) bool {
	t.Helper()
	is, e := v.Below(a, b)
	return must(t, is, e)
}

// classesOf returns for each type the least one that is the same.
func classesOf(t *testing.T, g api.Graph) []int {
	t.Helper()
	class, e := types.Classes(g)
	return must(t, class, e)
}

// typeOf returns the type that a symbol has in a world.
func typeOf(t *testing.T, w api.World, symbol string) int {
	t.Helper()
	for _, p := range w.Types {
		if p.Name == symbol {
			return p.Type
		}
	}
	t.Fatalf("there is no %s in %+v", symbol, w.Types)
	return 0
}

// expect holds what was found against what should be; nil slices and empty ones are the same.
func expect[T any](t *testing.T, what string, got, want T) {
	t.Helper()
	if shown(got) != shown(want) {
		t.Errorf("%s: %s instead of %s", what, shown(got), shown(want))
	}
}

func shown(x any) string { return fmt.Sprintf("%+v", x) }

// text returns units as a text, for messages.
func text(l []api.Unit) string {
	if s, e := tree.Print(l); e == api.OK {
		return s
	}
	return shown(l)
}

// swapped returns a source with something else in the place of a part of it.
func swapped(t *testing.T, src, part, other string) string {
	t.Helper()
	if !strings.Contains(src, part) {
		t.Fatalf("there is no %s in %s", part, src)
	}
	return strings.Replace(src, part, other, 1)
}

// shuffled returns units in another order.
func shuffled(r *rand.Rand, l []api.Unit) []api.Unit {
	l = slices.Clone(l)
	r.Shuffle(len(l), func(i, j int) { l[i], l[j] = l[j], l[i] })
	return l
}

// copiesOf returns units that share nothing with others, and have empty slices in the place of nil ones.
func copiesOf(l []api.Unit) []api.Unit {
	c := []api.Unit{}
	for _, u := range l {
		for _, list := range []*[]string{&u.Formals, &u.Actuals, &u.Exports, &u.Imports} {
			*list = append([]string{}, *list...)
		}
		u.Decls = append([]api.Decl{}, u.Decls...)
		for i := range u.Decls {
			u.Decls[i].Nodes, u.Decls[i].Body = copyOfNodes(u.Decls[i].Nodes), copyOfNodes(u.Decls[i].Body)
		}
		u.Body = copyOfNodes(u.Body)
		c = append(c, u)
	}
	return c
}

func copyOfNodes(l []api.Node) []api.Node {
	l = append([]api.Node{}, l...)
	for i := range l {
		l[i].Kids = append([]int{}, l[i].Kids...)
	}
	return l
}

// moved returns a copy of a graph, with other indices.
func moved(g api.Graph, to func(int) int) api.Graph {
	var c api.Graph
	for _, t := range g {
		if t.Kind == api.KdObject || t.Kind == api.KdOpaque {
			t.Super = to(t.Super)
		}
		t.Parts, t.Methods, t.Overs = slices.Clone(t.Parts), slices.Clone(t.Methods), slices.Clone(t.Overs)
		for i := range t.Parts {
			t.Parts[i].Type = to(t.Parts[i].Type)
		}
		for i := range t.Methods {
			s := &t.Methods[i].Sig
			s.Args, s.Raises = slices.Clone(s.Args), slices.Clone(s.Raises)
			for k := range s.Args {
				s.Args[k] = to(s.Args[k])
			}
			if s.Result >= 0 {
				s.Result = to(s.Result)
			}
		}
		c = append(c, t)
	}
	return c
}
