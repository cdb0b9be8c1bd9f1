package world_test

import (
	"slices"
	"testing"

	"trestle/api"
	"trestle/types"
	"trestle/world"
)

// F1: what Build returns is as the definitions say.
func TestBuildByDefinition(t *testing.T) {
	seen := map[api.Errno]int{}
	anyLibraries(11, 1200, func(_ *generator, l []api.Unit) {
		w, f := world.Build(l)
		seen[f.Err]++
		if want := faultsByDefinition(l); !slices.Contains(want, f) {
			t.Fatalf("Build has %+v instead of %+v, of\n%s", f, want, text(l))
		}
		if f.Err != api.OK {
			expect(t, "the world of a fault", w, api.World{})
			return
		}
		procs := w.Procs
		w.Procs = nil
		if want := worldByDefinition(l); shown(w) != shown(want) {
			t.Fatalf("Build is %s instead of %s, of\n%s", shown(w), shown(want), text(l))
		}
		if a, b := headingsByDefinition(l); shown(procs) != shown(a) && shown(procs) != shown(b) {
			t.Fatalf("Procs are %s instead of %s, of\n%s", shown(procs), shown(a), text(l))
		}
	})
	for _, e := range []api.Errno{api.OK, api.ErrUnit, api.ErrSafe, api.ErrCycle, api.ErrTwice, api.ErrName, api.ErrConst, api.ErrType, api.ErrSig, api.ErrLacking} {
		if seen[e] < 3 || e == api.OK && seen[e] < 300 {
			t.Errorf("of few sorts: %v", seen)
		}
	}
}

// F2: exports and needs are as the definitions say.
func TestUnitsByDefinition(t *testing.T) {
	libraries(21, 100, func(_ *generator, l []api.Unit) {
		m := modelOf(l)
		for i := range l {
			var needs []string
			for j := range l {
				if m.needs(i, j) {
					needs = append(needs, keyOf(l[j]))
				}
			}
			slices.Sort(needs)
			got, e := world.Needs(l, i)
			exports, f := world.Exports(l, i)
			if e != api.OK || f != api.OK || !slices.Equal(got, needs) || !slices.Equal(exports, m.exports(i)) {
				t.Fatalf("of %d: Needs %v, %v, Exports %v, %v, of\n%s", i, got, e, exports, f, text(l))
			}
		}
	})
}

// F4: what names mean, and what the expressions and types of declarations are once more, is as the definitions say.
func TestViewByDefinition(t *testing.T) {
	libraries(41, 100, func(g *generator, l []api.Unit) {
		m, v, w := modelOf(l), viewOf(t, l), worldOf(t, l)
		m.constants()
		for i := range l {
			for range 40 {
				qualifier, name := pick(g, "", "", "A", "B", "C", "M"), g.anyName(l)
				got, e := v.Mean(i, qualifier, name)
				if want := m.meaning(i, qualifier, name); got != want || (e != api.OK) != (want == api.Mean{}) || e != api.OK && e != api.ErrNone {
					t.Fatalf("Mean(%d, %q, %q): %+v, %v instead of %+v, of\n%s", i, qualifier, name, got, e, want, text(l))
				}
			}
			for k, d := range l[i].Decls {
				expectAgain(t, v, w, i, d, m.values[spot{i, k}], m.typeOf(spot{i, k}))
			}
		}
	})
}

func (m model) typeOf(s spot) int {
	if slices.Contains([]uint8{api.DcType, api.DcOpaque, api.DcVar}, m.decl(s).Kind) {
		return m.refers(s, -1)
	}
	return 0
}

func (m model) meaning(i int, qualifier, name string) api.Mean {
	s, kind := m.mean(i, qualifier, name)
	if kind == 0 {
		return api.Mean{}
	}
	return api.Mean{Kind: kind, Name: m.symbol(s), Bool: m.values[s].Bool, N: m.values[s].N, Type: m.typeOf(s)}
}

// expectAgain asks a view for what a constant or a type that is declared is made of.
func expectAgain(t *testing.T, v *world.View, w api.World, unit int, d api.Decl, value api.Const, at int) {
	t.Helper()
	switch d.Kind {
	case api.DcConst:
		if c, e := v.Value(unit, d.Nodes); c != value || e != api.OK {
			t.Fatalf("Value of %s in %d: %+v, %v instead of %+v", d.Name, unit, c, e, value)
		}
	case api.DcType, api.DcVar:
		g, again, e := v.Type(unit, d.Nodes)
		if e == api.ErrLimit {
			return
		}
		if e != api.OK || !types.Same(g[:len(w.Graph)], w.Graph) {
			t.Fatalf("Type of %s in %d: %v, %v", d.Name, unit, g, e)
		}
		a, _ := types.Print(g, at)
		if b, e := types.Print(g, again); e != api.OK || a != b {
			t.Fatalf("Type of %s in %d has another print than that which was declared", d.Name, unit)
		}
	}
}
