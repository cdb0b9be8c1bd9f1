package reveal_test

import (
	"slices"
	"testing"

	"trestle/api"
	"trestle/reveal"
	"trestle/types"
)

// P7.2: what lies below in the environment of a unit lies below in the concrete graph.
func TestNobodySeesWhatIsNotSo(t *testing.T) {
	byReveals := 0
	libraries(11, 200, func(_ *generator, l []api.Unit) {
		s := sightOf(t, l)
		g := concrete(t, s)
		v, without := envOf(t, g, nil), envOf(t, worldOf(t, s).Graph, nil)
		for unit := range l {
			seen := env(t, s, unit)
			for a := range g {
				for b := range g {
					if !below(t, seen, a, b) {
						continue
					}
					if !below(t, v, a, b) {
						t.Fatalf("unit %d sees %d below %d, of\n%s", unit, a, b, text(l))
					}
					if !below(t, without, a, b) {
						byReveals++
					}
				}
			}
		}
	})
	if byReveals < 500 {
		t.Errorf("little is seen by revelations: %d", byReveals)
	}
}

// P7.3: what a line has at its ends, and what is known.
func TestEndsOfLines(t *testing.T) {
	libraries(12, 200, func(_ *generator, l []api.Unit) {
		s := sightOf(t, l)
		w, g := worldOf(t, s), concrete(t, s)
		class, v := classesOf(t, g), envOf(t, g, nil)
		for i, x := range w.Graph {
			if x.Kind != api.KdOpaque {
				continue
			}
			row, real := line(t, s, i), realOf(t, s, i)
			if class[row[0]] != class[real] || class[row[len(row)-1]] != class[x.Super] {
				t.Fatalf("the line of %d is %v, of\n%s", i, row, text(l))
			}
			for n := range row[1:] {
				if !below(t, v, row[n], row[n+1]) {
					t.Fatalf("the line of %d is %v, of\n%s", i, row, text(l))
				}
			}
			for unit := range l {
				k := known(t, s, unit, i)
				if !below(t, v, real, k) {
					t.Fatalf("%d is known as %d, of\n%s", i, k, text(l))
				}
				if slices.Contains(sees(t, s, unit), api.Reveal{Name: x.Opaque, Full: true, Type: real}) && !below(t, env(t, s, unit), i, k) {
					t.Fatalf("%d does not lie below %d, as which it is known, of\n%s", i, k, text(l))
				}
			}
		}
	})
}

// P7.4: a unit that imports an interface more sees what it saw, and perhaps more.
func TestSeeingMore(t *testing.T) {
	more, lower := 0, 0
	libraries(13, 300, func(g *generator, l []api.Unit) {
		unit := g.IntN(len(l))
		imports := copiesOf(l)
		u := &imports[unit]
		for _, other := range shuffled(g.Rand, l) {
			if other.Kind == api.UnInterface && other.Name != u.Name && !slices.Contains(u.Imports, other.Name) && !slices.Contains(u.Exports, other.Name) {
				u.Imports = append(u.Imports, other.Name)
				break
			}
		}
		after, f := reveal.In(imports)
		if f.Err != api.OK { // interfaces that import each other
			return
		}
		before := sightOf(t, l)
		v := envOf(t, concrete(t, before), nil)
		rest := sees(t, after, unit)
		if len(rest) > len(sees(t, before, unit)) {
			more++
		}
		for _, r := range sees(t, before, unit) {
			at := slices.Index(rest, r)
			if at < 0 {
				t.Fatalf("%+v is not seen any more, of\n%s", r, text(imports))
			}
			rest = rest[at+1:]
		}
		for i, x := range worldOf(t, before).Graph {
			if x.Kind != api.KdOpaque {
				continue
			}
			was, is := known(t, before, unit, i), known(t, after, unit, i)
			if !below(t, v, is, was) {
				t.Fatalf("%d was known as %d, and is as %d, of\n%s", i, was, is, text(imports))
			}
			if is != was {
				lower++
			}
		}
	})
	if more < 20 || lower < 5 {
		t.Errorf("an import more shows little: %d, %d", more, lower)
	}
}

// P7.5: two types have one print exactly if they are really the same. No type of the concrete graph is opaque, and it is its own one.
func TestPrints(t *testing.T) {
	same := 0
	libraries(14, 200, func(_ *generator, l []api.Unit) {
		s := sightOf(t, l)
		w, g := worldOf(t, s), concrete(t, s)
		class, other := classesOf(t, g), classesOf(t, w.Graph)
		var prints []string
		for a := range g {
			prints = append(prints, printOf(t, s, a))
		}
		for a := range g {
			if g[a].Kind == api.KdOpaque {
				t.Fatalf("an opaque type in %+v", g)
			}
			for b := range g {
				if (prints[a] == prints[b]) != (class[a] == class[b]) {
					t.Fatalf("prints of %d and %d: %s and %s, of\n%s", a, b, prints[a], prints[b], text(l))
				}
				if class[a] == class[b] && other[a] != other[b] {
					same++
				}
			}
		}
		for _, reveals := range [][]api.Reveal{nil, revealsOf(w)} {
			if again, e := reveal.Rightly(g, reveals); e != api.OK || !types.Same(again, g) {
				t.Fatalf("Rightly of the concrete graph: %+v, %v", again, e)
			}
		}
		if again, e := reveal.Rightly(w.Graph, revealsOf(w)); e != api.OK || !types.Same(again, g) {
			t.Fatalf("Rightly of the graph: %+v, %v", again, e)
		}
	})
	if same < 100 {
		t.Errorf("few types are the same really alone: %d", same)
	}
}

// P7.6: with the units in another order there is a fault, or none, in both, and the prints are the same.
func TestOrder(t *testing.T) {
	good := 0
	anyLibraries(15, 400, func(g *generator, l []api.Unit) {
		other := shuffled(g.Rand, l)
		x, f := reveal.In(l)
		y, h := reveal.In(other)
		if (f.Err == api.OK) != (h.Err == api.OK) {
			t.Fatalf("%+v, and in another order %+v, of\n%s", f, h, text(l))
		}
		if f.Err != api.OK {
			return
		}
		good++
		v, w := worldOf(t, x), worldOf(t, y)
		for n, p := range slices.Concat(v.Types, v.Vars) {
			q := slices.Concat(w.Types, w.Vars)[n]
			if p.Name != q.Name || printOf(t, x, p.Type) != printOf(t, y, q.Type) {
				t.Fatalf("the print of %s, and that of %s in another order, of\n%s", p.Name, q.Name, text(l))
			}
		}
	})
	if good < 100 {
		t.Errorf("few libraries without a fault: %d", good)
	}
}
