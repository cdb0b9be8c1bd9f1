package sub_test

import (
	"fmt"
	"math/rand/v2"
	"reflect"
	"slices"
	"strings"
	"testing"

	"trestle/api"
	"trestle/sub"
	"trestle/types"
)

// results returns what all methods return, each as a list with the error at its end.
func results(v *sub.Env, a, b int, name string, l []api.Step) map[string][]any {
	r := map[string][]any{}
	add := func(call string, results ...any) { r[call] = results }
	is, e := v.Below(a, b)
	add("Below", is, e)
	list, e := v.Above(a)
	add("Above", list, e)
	steps, is, e := v.Derive(a, b)
	add("Derive", steps, is, e)
	is, e = v.CheckDerive(a, b, l)
	add("CheckDerive", is, e)
	i, is, e := v.Join(a, b)
	add("Join", i, is, e)
	assign, e := v.Assign(a, b)
	add("Assign", assign, e)
	list, e = v.Line(a)
	add("Line", list, e)
	owner, at, e := v.Field(a, name)
	add("Field", owner, at, e)
	owner, at, e = v.Method(a, name)
	add("Method", owner, at, e)
	return r
}

// errorOf returns the error of a call, and tells whether all other results are empty.
func errorOf(results []any) (api.Errno, bool) {
	empty := true
	for _, x := range results[:len(results)-1] {
		v := reflect.ValueOf(x)
		empty = empty && (v.IsZero() || v.Kind() == reflect.Slice && v.Len() == 0)
	}
	return results[len(results)-1].(api.Errno), empty
}

// R5: methods of a nil environment return ErrNil, whatever they are asked.
func TestNil(t *testing.T) {
	var none *sub.Env
	for _, i := range []int{0, -1, 400} {
		for call, l := range results(none, i, i, "a", []api.Step{{}}) {
			e, empty := errorOf(l)
			expect(t, call+" of nil", fmt.Sprint(e, empty), fmt.Sprint(api.ErrNil, true))
		}
	}
}

// Errors: ErrArg for an index that there is not, at both ends and far outside, also of an environment without types.
func TestIndices(t *testing.T) {
	v, empty := open(t, exampleGraph(), exampleReveal), open(t, nil)
	two := func(call string) bool { return !slices.Contains([]string{"Above", "Line", "Field", "Method"}, call) }
	for _, i := range []int{-1 << 63, -400, -1, 0, 10, 11, 12, 64, 399, 400, 448, 1 << 40, 1<<63 - 1} {
		isIndex := i >= 0 && i <= 10
		for call, l := range results(v, i, 0, "n", nil) {
			e, _ := errorOf(l)
			expect(t, fmt.Sprint(call, " of ", i), e == api.ErrArg, !isIndex)
		}
		for call, l := range results(v, 0, i, "n", make([]api.Step, 1001)) {
			e, _ := errorOf(l)
			expect(t, fmt.Sprint(call, " of 0 and ", i), e == api.ErrArg, two(call) && !isIndex)
		}
		for call, l := range results(empty, i, i, "", nil) {
			e, _ := errorOf(l)
			expect(t, fmt.Sprint(call, " of no types"), e, api.ErrArg)
		}
	}
}

// R1, R2, R4: no call panics, or returns something else the next time, whatever was asked between; with an error all other results are empty.
func TestRules(t *testing.T) {
	seen := map[string]map[api.Errno]bool{}
	anyEnvironments(51, 1500, func(r *rand.Rand, g api.Graph, l []api.Reveal) {
		v, e := sub.In(g, l)
		if e != api.OK {
			return
		}
		same := open(t, copyOf(g), slices.Clone(l)...)
		number := func() int { return oneOf(r, 0, r.IntN(len(g)), r.IntN(len(g)), -1, len(g), 1<<63-1) }
		name := oneOf(r, "a", "b", "x", "", "I.T", strings.Repeat("long", 99))
		steps := []api.Step{{Rule: uint8(r.IntN(9)), To: number(), N: number()}, {Rule: uint8(r.IntN(256)), To: number()}}
		a, b := number(), number()
		first := results(v, a, b, name, steps)
		results(v, number(), number(), name, steps)
		for call, x := range results(v, a, b, name, steps) {
			if !reflect.DeepEqual(x, first[call]) {
				t.Fatalf("%s of %d, %d in %+v with %+v: %v, and then %v", call, a, b, g, l, first[call], x)
			}
			if other := results(same, a, b, name, steps)[call]; !reflect.DeepEqual(x, other) {
				t.Fatalf("%s of %d, %d in %+v with %+v: %v, and in another environment %v", call, a, b, g, l, x, other)
			}
			e, empty := errorOf(x)
			if e != api.OK && !empty {
				t.Fatalf("%s of %d, %d in %+v with %+v: %v", call, a, b, g, l, x)
			}
			if seen[call] == nil {
				seen[call] = map[api.Errno]bool{}
			}
			seen[call][e] = true
		}
	})
	want := map[string][]api.Errno{
		"Below": {0, 1}, "Above": {0, 1}, "Derive": {0, 1}, "CheckDerive": {0, 1}, "Join": {0, 1}, "Assign": {0, 1, 41}, "Line": {0, 1}, "Field": {0, 1, 5}, "Method": {0, 1, 5},
	}
	for call, errors := range want {
		for _, e := range errors {
			if !seen[call][e] || len(seen[call]) != len(errors) {
				t.Errorf("%s: %v instead of %v", call, seen[call], errors)
			}
		}
	}
}

// R1: any fields of types and revelations are told to be wrong, or not, without a panic.
func TestAnyFields(t *testing.T) {
	r := random(52)
	number := func() int { return oneOf(r, 0, 0, 1, 2, -1, -1<<63, 1<<63-1, 1000000001) }
	name := func() string { return oneOf(r, "", "a", "I.T", "I.U", "\xff", "A.B.C") }
	for range 5000 {
		g := make(api.Graph, r.IntN(4))
		for i := range g {
			g[i] = api.Ty{Kind: uint8(r.IntN(15)), Super: number()}
			if r.IntN(3) == 0 {
				g[i].Low, g[i].High, g[i].Opaque, g[i].Brand, g[i].Branded = number(), number(), name(), name(), true
			}
			if r.IntN(2) == 0 {
				g[i].Parts = []api.Part{{Name: name(), Type: number()}}
			}
			if g[i].Kind == api.KdOpaque {
				g[i] = opaqueOf(oneOf(r, "I.T", "I.U", "a"), number())
			}
		}
		var l []api.Reveal
		for range r.IntN(3) {
			l = append(l, api.Reveal{Name: name(), Full: r.IntN(2) == 0, Type: number()})
		}
		before := copyAll(g, l)
		if e, want := sub.Check(g, l), checkByDefinition(g, l); e != want {
			t.Fatalf("Check of %+v with %+v: %v instead of %v", g, l, e, want)
		}
		if _, e := sub.In(g, l); e != checkByDefinition(g, l) {
			t.Fatalf("In of %+v with %+v: %v", g, l, e)
		}
		if !reflect.DeepEqual(before, copyAll(g, l)) {
			t.Fatalf("%+v was changed", before)
		}
	}
}

// copyAll returns what a graph and revelations are.
func copyAll(g api.Graph, l []api.Reveal) []any {
	var all []any
	for _, x := range g {
		all = append(all, fmt.Sprintf("%+v", x))
	}
	return append(all, fmt.Sprintf("%+v", l))
}

// R3: an environment keeps copies, arguments are not changed, and results are new memory.
func TestMemory(t *testing.T) {
	environments(53, 400, func(r *rand.Rand, m model) {
		g, l := copyOf(m.g), slices.Clone(m.l)
		v := open(t, g, l...)
		a, b := r.IntN(len(g)), r.IntN(len(g))
		steps, _ := derive(t, v, a, b)
		given := slices.Clone(steps)
		before := fmt.Sprint(results(v, a, b, "a", given))
		if !types.Same(g, m.g) || !slices.Equal(l, m.l) || !slices.Equal(steps, given) {
			t.Fatalf("%+v with %+v was changed to %+v with %+v", m.g, m.l, g, l)
		}
		above, _ := v.Above(a)
		line, _ := v.Line(a)
		found, _ := derive(t, v, a, b)
		for i := range above {
			above[i] = -7
		}
		for i := range line {
			line[i] = -7
		}
		for i := range found {
			found[i] = api.Step{}
		}
		for n := range l {
			l[n] = api.Reveal{}
		}
		spoil(g)
		if after := fmt.Sprint(results(v, a, b, "a", given)); after != before {
			t.Fatalf("in %+v with %+v: %s, and then %s", m.g, m.l, before, after)
		}
	})
}

// spoil changes all in a graph.
func spoil(g api.Graph) {
	for i := range g {
		for k := range g[i].Parts {
			g[i].Parts[k] = api.Part{Name: "spoilt", Type: -7}
		}
		for k := range g[i].Methods {
			g[i].Methods[k].Name = "spoilt"
		}
		g[i] = api.Ty{Kind: 99, Opaque: "spoilt", Super: -7}
	}
}
