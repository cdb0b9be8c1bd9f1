package reveal_test

import (
	"slices"
	"testing"

	"trestle/api"
	"trestle/reveal"
	"trestle/sub"
	"trestle/types"
)

// answers returns what all methods of a sight return.
func answers(s *reveal.Sight, unit, i int) string {
	w, e1 := s.World()
	real, e2 := s.Real(i)
	g, e3 := s.Concrete()
	print, e4 := s.Print(i)
	seen, e5 := s.Sees(unit)
	v, e6 := s.Env(unit)
	row, e7 := s.Line(i)
	known, e8 := s.Known(unit, i)
	all := shown([]any{w, e1, real, e2, g, e3, print, e4, seen, e5, v == nil, e6, row, e7, known, e8})
	return all + aboveAll(v, len(w.Graph))
}

func aboveAll(v *sub.Env, n int) string {
	all := ""
	for i := range n {
		l, e := v.Above(i)
		all += shown([]any{l, e})
	}
	return all
}

// R1, R3, R4: units with any values are answered, always alike; nil slices and empty ones are the same; arguments are not changed.
func TestAnyUnits(t *testing.T) {
	seen := map[api.Errno]int{}
	numbers := []int{0, 1, 2, 5, -1, 1 << 40, -1 << 63}
	anyLibraries(31, 400, func(g *generator, l []api.Unit) {
		l = copiesOf(l)
		for range g.IntN(3) {
			if len(l) > 0 {
				breakUnit(g, &l[g.IntN(len(l))])
			}
		}
		unit, i := pick(g, numbers...), pick(g, numbers...)
		kept, before := copiesOf(l), shown(l)
		all := func(l []api.Unit) string {
			s, f := reveal.In(l)
			return shown([]any{f, reveal.Check(l), s == nil}) + answers(s, unit, i)
		}
		first := all(l)
		if shown(l) != before {
			t.Fatalf("arguments are changed: %+v instead of %s", l, before)
		}
		if again := all(kept); again != first {
			t.Fatalf("%s, and then %s, of %+v", first, again, l)
		}
		if none := all(nilOf(l)); none != first {
			t.Fatalf("%s, and with nil slices %s, of %+v", first, none, l)
		}
		seen[reveal.Check(l).Err]++
	})
	if seen[api.OK] < 40 || seen[api.ErrTree] < 40 || seen[api.ErrFull] < 20 {
		t.Errorf("of few sorts: %v", seen)
	}
}

// nilOf returns units with nil slices in the places of empty ones.
func nilOf(l []api.Unit) []api.Unit {
	l = slices.Clone(l)
	for i := range l {
		u := &l[i]
		for _, list := range []*[]string{&u.Formals, &u.Actuals, &u.Exports, &u.Imports} {
			if len(*list) == 0 {
				*list = nil
			}
		}
		u.Decls = slices.Clone(u.Decls)
		for k := range u.Decls {
			d := &u.Decls[k]
			d.Nodes = slices.Clone(d.Nodes)
			for j := range d.Nodes {
				if len(d.Nodes[j].Kids) == 0 {
					d.Nodes[j].Kids = nil
				}
			}
			if len(d.Body) == 0 {
				d.Body = nil
			}
		}
	}
	return l
}

// breakUnit changes something in a unit to what may not be.
func breakUnit(g *generator, u *api.Unit) {
	strange := pick(g, "", "END", "thirteenBytes", "A", "\xff")
	switch g.IntN(6) {
	case 0:
		u.Kind = uint8(g.IntN(4))
	case 1:
		*pick(g, &u.Name, &u.Of) = strange
	case 2:
		list := pick(g, &u.Exports, &u.Imports, &u.Actuals)
		*list = append(*list, strange)
	case 3:
		u.Decls = append(u.Decls, api.Decl{Kind: uint8(g.IntN(9)), Unit: strange, Name: strange, N: g.IntN(4) - 1})
	case 4:
		u.Generic, u.Formals = true, []string{"E"}
	default:
		for i := range u.Decls {
			if l := u.Decls[i].Nodes; len(l) > 0 {
				l[g.IntN(len(l))].Kind = uint8(g.IntN(60))
				l[0].Kids = append(l[0].Kids, pick(g, -1, 0, 1<<62))
			}
		}
	}
}

// R1, R3: Rightly of any values.
func TestAnyGraphs(t *testing.T) {
	r := random(32)
	numbers := []int{0, 1, 2, 5, -1, -2, 400, 1 << 40, -1 << 63, 1<<63 - 1}
	for range 3000 {
		g, l := anyGraph(r)
		x := &g[r.IntN(len(g))]
		switch r.IntN(5) {
		case 0:
			x.Kind = uint8(r.IntN(20))
		case 1:
			x.Super = oneOf(r, numbers...)
		case 2:
			x.Parts = append(x.Parts, api.Part{Name: oneOf(r, "", "z"), Type: oneOf(r, numbers...)})
		case 3:
			x.Methods = append(x.Methods, api.Method{Name: "z", Sig: api.Sig{Args: []int{oneOf(r, numbers...)}, Result: oneOf(r, numbers...)}})
		}
		l = append(l, api.Reveal{Name: oneOf(r, "", "I.T", "\xff"), Full: r.IntN(2) == 0, Type: oneOf(r, numbers...)})
		before := shown([]any{g, l})
		got, e := reveal.Rightly(g, l)
		if shown([]any{g, l}) != before {
			t.Fatalf("arguments are changed: %+v and %+v instead of %s", g, l, before)
		}
		if again, e2 := reveal.Rightly(g, l); e2 != e || !types.Same(got, again) {
			t.Fatalf("%v, and then %v, of %s", e, e2, before)
		}
		if e != api.OK && len(got) > 0 {
			t.Fatalf("%v, and %+v", e, got)
		}
	}
}

// spoilGraph changes all in a graph, and what slices have room for.
func spoilGraph(g api.Graph) {
	for _, t := range g {
		for _, m := range t.Methods {
			clear(m.Sig.Args[:cap(m.Sig.Args)])
			clear(m.Sig.Raises[:cap(m.Sig.Raises)])
		}
		clear(t.Methods[:cap(t.Methods)])
		clear(t.Overs[:cap(t.Overs)])
		clear(t.Parts[:cap(t.Parts)])
	}
	clear(g[:cap(g)])
}

// R3: a sight keeps nothing of its argument, and results are new memory.
func TestMemory(t *testing.T) {
	libraries(33, 60, func(g *generator, l []api.Unit) {
		c := copiesOf(l)
		s := sightOf(t, c)
		w := worldOf(t, s)
		unit, i := g.IntN(len(l)), 0
		for k, x := range w.Graph {
			if x.Kind == api.KdOpaque {
				i = k
			}
		}
		before := answers(s, unit, i)
		v := env(t, s, unit)
		above := aboveAll(v, len(w.Graph))
		spoilGraph(w.Graph)
		clear(w.Shown[:cap(w.Shown)])
		clear(w.Types[:cap(w.Types)])
		clear(w.Units[:cap(w.Units)])
		spoilGraph(concrete(t, s))
		seen := sees(t, s, unit)
		clear(seen[:cap(seen)])
		if row, e := s.Line(i); e == api.OK {
			clear(row[:cap(row)])
		}
		for i := range c {
			clear(c[i].Imports)
			clear(c[i].Exports)
			for _, d := range c[i].Decls {
				for _, n := range d.Nodes {
					clear(n.Kids)
				}
				clear(d.Nodes)
			}
			clear(c[i].Decls)
			c[i] = api.Unit{}
		}
		if after := answers(s, unit, i); after != before {
			t.Fatalf("a sight shares memory: %s, and then %s, of\n%s", before, after, text(l))
		}
		if after := aboveAll(v, len(w.Graph)); after != above {
			t.Fatalf("an environment shares memory: %s, and then %s", above, after)
		}
	})
}

// R3: no two slices of one concrete graph share memory, and none with an argument, though opaque types become copies of others.
func TestSlicesOfOneGraph(t *testing.T) {
	check := func(g api.Graph) {
		t.Helper()
		for i := range g {
			rest := shown(g[i+1:])
			for _, m := range g[i].Methods {
				clear(m.Sig.Args[:cap(m.Sig.Args)])
				clear(m.Sig.Raises[:cap(m.Sig.Raises)])
			}
			clear(g[i].Methods[:cap(g[i].Methods)])
			clear(g[i].Overs[:cap(g[i].Overs)])
			clear(g[i].Parts[:cap(g[i].Parts)])
			if shown(g[i+1:]) != rest {
				t.Fatalf("types share memory: %s, and then %s", rest, shown(g[i+1:]))
			}
		}
	}
	libraries(34, 60, func(_ *generator, l []api.Unit) { check(concrete(t, sightOf(t, l))) })
	r := random(35)
	for range 500 {
		g, l := anyGraph(r)
		before := shown(g)
		got, _ := reveal.Rightly(g, l)
		check(got)
		if shown(g) != before {
			t.Fatalf("a result shares memory with an argument: %s, and then %+v", before, g)
		}
	}
}

// R4: what is asked of a sight changes nothing in it.
func TestAskedAgain(t *testing.T) {
	libraries(36, 40, func(g *generator, l []api.Unit) {
		s := sightOf(t, l)
		n := len(worldOf(t, s).Graph)
		if n == 0 {
			return
		}
		var first []string
		asked := func() (all []string) {
			for unit := range l {
				for i := range min(n, 6) {
					all = append(all, answers(s, unit, i))
				}
			}
			return all
		}
		first = asked()
		if again := asked(); !slices.Equal(first, again) {
			t.Fatalf("other answers, of\n%s", text(l))
		}
	})
}
