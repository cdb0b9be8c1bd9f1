package sub_test

import (
	"fmt"
	"slices"
	"testing"

	"trestle/api"
	"trestle/sub"
	"trestle/types"
)

// exampleGraph is the graph of the chapter's examples.
func exampleGraph() api.Graph {
	branded := objectOf(4, "n", 0)
	branded.Branded, branded.Brand = true, "b"
	return api.Graph{
		plain(api.KdInteger), rangeOf(0, 9), rangeOf(5, 20), plain(api.KdAny), plain(api.KdRoot), opaqueOf("I.T", 4),
		branded, objectOf(5, "m", 1), plain(api.KdNull), refTo(0), rangeOf(3, 4),
	}
}

// exampleReveal is the revelation of the chapter's examples.
var exampleReveal = fully("I.T", 6)

func fully(name string, t int) api.Reveal { return api.Reveal{Name: name, Full: true, Type: t} }

func partly(name string, t int) api.Reveal { return api.Reveal{Name: name, Type: t} }

func plain(kind uint8) api.Ty { return api.Ty{Kind: kind} }

func rangeOf(low, high int) api.Ty { return api.Ty{Kind: api.KdRange, Low: low, High: high} }

func opaqueOf(name string, super int) api.Ty {
	return api.Ty{Kind: api.KdOpaque, Opaque: name, Super: super}
}

func refTo(i int) api.Ty { return api.Ty{Kind: api.KdRef, Parts: []api.Part{{Type: i}}} }

// objectOf returns an object type with a field.
func objectOf(super int, field string, i int) api.Ty {
	return api.Ty{Kind: api.KdObject, Super: super, Parts: []api.Part{{Name: field, Type: i}}}
}

// child returns an object type without fields.
func child(super int) api.Ty { return api.Ty{Kind: api.KdObject, Super: super} }

// brandedChild returns one that has a brand of its own.
func brandedChild(super int, brand string) api.Ty {
	return api.Ty{Kind: api.KdObject, Super: super, Branded: true, Brand: brand}
}

func open(t *testing.T, g api.Graph, l ...api.Reveal) *sub.Env {
	t.Helper()
	v, e := sub.In(g, l)
	if e != api.OK || v == nil {
		t.Fatalf("In of %+v with %+v: %v, %v", g, l, v, e)
	}
	return v
}

// must returns what a call returned without an error.
func must[T any](t *testing.T, x T, e api.Errno) T {
	t.Helper()
	if e != api.OK {
		t.Fatalf("the error %v", e)
	}
	return x
}

// below asks an environment that has both types.
func below(t *testing.T, v *sub.Env, a, b int) bool {
	t.Helper()
	is, e := v.Below(a, b)
	return must(t, is, e)
}

// join returns what Join finds, or -1.
func join(t *testing.T, v *sub.Env, a, b int) int {
	t.Helper()
	i, is, e := v.Join(a, b)
	if e != api.OK || !is && i != 0 {
		t.Fatalf("Join of %d and %d: %d, %v, %v", a, b, i, is, e)
	}
	if !is {
		return -1
	}
	return i
}

// derive returns what Derive finds.
func derive(t *testing.T, v *sub.Env, a, b int) ([]api.Step, bool) {
	t.Helper()
	l, is, e := v.Derive(a, b)
	if e != api.OK || !is && len(l) > 0 {
		t.Fatalf("Derive of %d and %d: %v, %v, %v", a, b, l, is, e)
	}
	return l, is
}

// accepts asks CheckDerive.
func accepts(t *testing.T, v *sub.Env, a, b int, l ...api.Step) bool {
	t.Helper()
	is, e := v.CheckDerive(a, b, l)
	return must(t, is, e)
}

// found is what Field and Method return.
type found struct {
	owner, at int
	e         api.Errno
}

func field(v *sub.Env, t int, name string) found {
	owner, at, e := v.Field(t, name)
	return found{owner, at, e}
}

func method(v *sub.Env, t int, name string) found {
	owner, at, e := v.Method(t, name)
	return found{owner, at, e}
}

// expect holds what was found against what should be.
func expect[T any](t *testing.T, what string, got, want T) {
	t.Helper()
	if g, w := fmt.Sprintf("%+v", got), fmt.Sprintf("%+v", want); g != w {
		t.Errorf("%s: %s instead of %s", what, g, w)
	}
}

// copyOf returns a graph that shares nothing with another one.
func copyOf(g api.Graph) api.Graph { return moved(g, func(i int) int { return i }) }

// moved returns a copy of a graph, with other indices.
func moved(g api.Graph, to func(int) int) api.Graph {
	var c api.Graph
	for _, t := range g {
		if t.Kind == api.KdObject || t.Kind == api.KdOpaque {
			t.Super = to(t.Super)
		}
		t.Parts, t.Methods, t.Overs = slices.Clone(t.Parts), slices.Clone(t.Methods), slices.Clone(t.Overs)
		for i := range t.Parts {
			t.Parts[i].Type = to(t.Parts[i].Type)
		}
		for i := range t.Methods {
			s := &t.Methods[i].Sig
			s.Args, s.Raises = slices.Clone(s.Args), slices.Clone(s.Raises)
			for k := range s.Args {
				s.Args[k] = to(s.Args[k])
			}
			if s.Result >= 0 {
				s.Result = to(s.Result)
			}
		}
		c = append(c, t)
	}
	return c
}

// classesOf returns for each type the least one that is the same.
func classesOf(g api.Graph) []int {
	class, e := types.Classes(g)
	if e != api.OK {
		panic(e)
	}
	return class
}
