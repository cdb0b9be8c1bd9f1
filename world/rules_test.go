package world_test

import (
	"slices"
	"testing"

	"trestle/api"
	"trestle/tree"
	"trestle/world"
)

// answers returns what all functions return for units, and of their view; each call twice.
func answers(l []api.Unit, unit int, name string, order []string, x, y []api.Node) string {
	w, f := world.Build(l)
	v, h := world.In(l)
	exports, e1 := world.Exports(l, unit)
	needs, e2 := world.Needs(l, unit)
	is, e3 := world.CheckOrder(l, order)
	all := shown([]any{w, f, v == nil, h, exports, e1, needs, e2, is, e3})
	for _, u := range l {
		all += world.Key(u)
	}
	return all + views(v, unit, name, x, y)
}

func views(v *world.View, unit int, name string, x, y []api.Node) string {
	again, e1 := v.World()
	m, e2 := v.Mean(unit, "", name)
	n, e3 := v.Mean(unit, "A", name)
	c, e4 := v.Value(unit, x)
	g, at, e5 := v.Type(unit, y)
	return shown([]any{again, e1, m, e2, n, e3, c, e4, g, at, e5})
}

// R1, R3, R4: units with any values are answered, always alike; nil slices and empty ones are the same; arguments are not changed.
func TestAnyUnits(t *testing.T) {
	seen := map[api.Errno]int{}
	numbers := []int{0, 1, 2, 5, -1, 1 << 40, -1 << 63}
	anyLibraries(51, 300, func(g *generator, l []api.Unit) {
		l = copiesOf(l)
		for range g.IntN(3) {
			if len(l) > 0 {
				breakUnit(g, &l[g.IntN(len(l))])
			}
		}
		x, y := []api.Node{{Kind: api.ExName, Name: g.anyName(l)}}, []api.Node{{Kind: api.TyName, Name: g.anyName(l)}, {Kind: api.TyRef, Kids: []int{0}}}
		if g.IntN(4) == 0 {
			breakNodes(g, pick(g, x, y))
		}
		unit, name, order := pick(g, numbers...), pick(g, g.anyName(l), "", "\xff"), []string{"A.", "A", "", "\xff"}
		kept, before := copiesOf(l), shown([]any{l, x, y, order})
		first := answers(l, unit, name, order, x, y)
		if shown([]any{l, x, y, order}) != before {
			t.Fatalf("arguments are changed: %+v instead of %s", l, before)
		}
		if again := answers(kept, unit, name, order, x, y); again != first {
			t.Fatalf("%s, and then %s, of %+v", first, again, l)
		}
		if none := answers(nilOf(l), unit, name, order, x, y); none != first {
			t.Fatalf("%s, and with nil slices %s, of %+v", first, none, l)
		}
		_, f := world.Build(l)
		seen[f.Err]++
	})
	if seen[api.OK] < 20 || seen[api.ErrTree] < 50 {
		t.Errorf("of few sorts: %v", seen)
	}
}

// nilOf returns units with nil slices in the places of empty ones.
func nilOf(l []api.Unit) []api.Unit {
	l = copiesOf(l)
	for i := range l {
		for _, list := range []*[]string{&l[i].Formals, &l[i].Actuals, &l[i].Exports, &l[i].Imports} {
			if len(*list) == 0 {
				*list = nil
			}
		}
		for k := range l[i].Decls {
			d := &l[i].Decls[k]
			for _, nodes := range [][]api.Node{d.Nodes, d.Body} {
				for j := range nodes {
					if len(nodes[j].Kids) == 0 {
						nodes[j].Kids = nil
					}
				}
			}
			if len(d.Body) == 0 {
				d.Body = nil
			}
		}
	}
	return l
}

// breakUnit changes something in a unit to what may not be.
func breakUnit(g *generator, u *api.Unit) {
	strange := pick(g, "", "END", "thirteenBytes", "A", "\xff")
	switch g.IntN(7) {
	case 0:
		u.Kind = uint8(g.IntN(4))
	case 1:
		u.Generic, u.Formals = true, []string{"E"}
	case 2:
		*pick(g, &u.Name, &u.Of) = strange
	case 3:
		list := pick(g, &u.Exports, &u.Imports, &u.Actuals)
		*list = append(*list, strange)
	case 4:
		u.Body = append(u.Body, api.Node{Kind: uint8(g.IntN(60)), Kids: []int{pick(g, -1, 0, 1, 1<<62)}})
	case 5:
		u.Decls = append(u.Decls, api.Decl{Kind: uint8(g.IntN(9)), Unit: strange, Name: strange})
	default:
		for i := range u.Decls {
			breakNodes(g, u.Decls[i].Nodes)
		}
	}
}

func breakNodes(g *generator, l []api.Node) {
	if len(l) == 0 {
		return
	}
	n := &l[g.IntN(len(l))]
	switch g.IntN(4) {
	case 0:
		n.Kind = uint8(g.IntN(60))
	case 1:
		n.Kids = append(n.Kids, g.IntN(len(l)))
	case 2:
		n.N = pick(g, -1, 2, 1<<62)
	case 3:
		n.Unit = pick(g, "", "E", "END", "A")
	}
}

// R1: fields that have nothing to do with a Kind, and lists that are too long, panic nowhere.
func TestStrangeUnits(t *testing.T) {
	for _, u := range []api.Unit{{}, {Kind: 255}, {Kind: api.UnModule, Name: "M"}, {Kind: api.UnInterface, Name: "I", Body: []api.Node{{Kind: api.StSeq}}}, {Kind: api.UnInterface, Name: "I", Decls: make([]api.Decl, 41)}} {
		expectFault(t, []api.Unit{u}, fault(api.ErrTree, 0))
		expectFault(t, append(parse(t, "MODULE X; IMPORT Nothing; END X."), u), fault(api.ErrTree, 1))
	}
}

// R3: a view keeps nothing of its argument, and results are new memory.
func TestMemory(t *testing.T) {
	libraries(53, 60, func(g *generator, l []api.Unit) {
		c := copiesOf(l)
		v := viewOf(t, c)
		x, y := []api.Node{{Kind: api.ExInt, N: 3}}, typ(t, "REF RECORD a: ROOT OBJECT METHODS m(a: INTEGER) RAISES {ALERTED}; END; END")
		unit := g.IntN(len(l))
		before := views(v, unit, "t1", x, y)
		w, built := worldOf(t, c), worldOf(t, c)
		want := shown(w)
		exports, _ := world.Exports(c, unit)
		needs, _ := world.Needs(c, unit)
		lists := shown([]any{exports, needs})
		kept := copiesOf(c)
		spoilWorld(&w)
		for _, list := range [][]string{exports[:cap(exports)], needs[:cap(needs)]} {
			clear(list)
		}
		if shown(c) != shown(kept) || shown(built) != want {
			t.Fatalf("a result shares memory, of\n%s", text(l))
		}
		one, _ := v.World()
		spoilWorld(&one)
		graph, _, _ := v.Type(unit, y)
		spoilGraph(graph)
		for i := range c {
			clear(c[i].Imports)
			clear(c[i].Exports)
			for _, d := range c[i].Decls {
				for _, n := range d.Nodes {
					clear(n.Kids)
				}
				clear(d.Nodes)
			}
			clear(c[i].Decls)
			c[i] = api.Unit{}
		}
		if after := views(v, unit, "t1", x, y); after != before {
			t.Fatalf("a view shares memory: %s, and then %s, of\n%s", before, after, text(l))
		}
		exports, _ = world.Exports(l, unit)
		needs, _ = world.Needs(l, unit)
		expect(t, "Exports and Needs", shown([]any{exports, needs}), lists)
	})
}

// spoilWorld changes all in a world; before that it lets each of its slices grow, which only what shares memory with one of them would show.
func spoilWorld(w *api.World) {
	_ = append(w.Graph, api.Ty{Kind: 99})
	spoilGraph(w.Graph)
	for _, p := range w.Procs {
		clear(p.Sig.Args[:cap(p.Sig.Args)])
		clear(p.Sig.Raises[:cap(p.Sig.Raises)])
	}
	clear(w.Units[:cap(w.Units)])
	clear(w.Order[:cap(w.Order)])
	clear(w.Excs[:cap(w.Excs)])
	clear(w.Consts[:cap(w.Consts)])
	clear(w.Types[:cap(w.Types)])
	clear(w.Vars[:cap(w.Vars)])
	clear(w.Procs[:cap(w.Procs)])
	clear(w.Shown[:cap(w.Shown)])
}

func spoilGraph(g api.Graph) {
	for _, t := range g {
		for _, m := range t.Methods {
			clear(m.Sig.Args[:cap(m.Sig.Args)])
			clear(m.Sig.Raises[:cap(m.Sig.Raises)])
		}
		clear(t.Methods[:cap(t.Methods)])
		clear(t.Overs[:cap(t.Overs)])
		clear(t.Parts[:cap(t.Parts)])
	}
	clear(g[:cap(g)])
}

// R3: no two slices of one world share memory.
func TestSlicesOfOneWorld(t *testing.T) {
	libraries(54, 60, func(_ *generator, l []api.Unit) {
		w := worldOf(t, l)
		want := shown(w.Procs)
		spoilGraph(w.Graph)
		if got := shown(w.Procs); got != want {
			t.Fatalf("Procs share memory with the graph: %s instead of %s", got, want)
		}
		for i, p := range w.Procs {
			rest := shown(w.Procs[i+1:])
			clear(p.Sig.Args[:cap(p.Sig.Args)])
			clear(p.Sig.Raises[:cap(p.Sig.Raises)])
			if shown(w.Procs[i+1:]) != rest {
				t.Fatalf("signatures share memory: %+v", w.Procs)
			}
		}
		units := slices.Clone(w.Units)
		clear(w.Order[:cap(w.Order)])
		expect(t, "Units", w.Units, units)
	})
}

// R7: what is nested deeply, and constants and types that name one another in a long row, come to an end.
func TestLong(t *testing.T) {
	name := func(unit, k int) string {
		return "n" + string(rune('a'+unit/10)) + string(rune('a'+unit%10)) + string(rune('a'+k/10)) + string(rune('a'+k%10))
	}
	var l []api.Unit
	for i := range 30 {
		u := api.Unit{Kind: api.UnInterface, Name: "I" + string(rune('a'+i/10)) + string(rune('a'+i%10))}
		next := ""
		if i > 0 {
			next = l[i-1].Name
			u.Imports = []string{next}
		}
		for k := range 20 {
			unit, of := "", name(i, k-1)
			if k == 0 {
				unit, of = next, name(i-1, 19)
			}
			value, alias := []api.Node{{Kind: api.ExName, Unit: unit, Name: of}}, api.Node{Kind: api.TyName, Unit: unit, Name: "T" + of}
			if i == 0 && k == 0 {
				value, alias = []api.Node{{Kind: api.ExInt, N: 7}}, api.Node{Kind: api.TyPlain, Name: "INTEGER"}
			}
			for len(value) < 399 {
				value = append(value, api.Node{Kind: api.ExOp, Name: "-", Kids: []int{len(value) - 1}})
			}
			u.Decls = append(u.Decls, api.Decl{Kind: api.DcConst, Name: name(i, k), Nodes: value}, api.Decl{Kind: api.DcType, Name: "T" + name(i, k), Nodes: []api.Node{alias}})
		}
		slices.Reverse(u.Decls)
		l = append(l, u)
	}
	slices.Reverse(l)
	if e := tree.Check(l[0]); e != api.OK {
		t.Fatal(e)
	}
	w := worldOf(t, l)
	if len(w.Graph) != 1 || len(w.Consts) != 600 || w.Consts[599].N != 7 || len(w.Types) != 600 {
		t.Errorf("%d types of the graph, %d constants, %d types", len(w.Graph), len(w.Consts), len(w.Types))
	}
	l[29].Decls[39].Nodes = []api.Node{{Kind: api.ExName, Name: "nothing"}}
	expectFault(t, l, fault(api.ErrConst, 2))
	l[29].Decls[39].Nodes = []api.Node{{Kind: api.ExInt, N: 7}}
	l[29].Decls[38].Nodes = []api.Node{{Kind: api.TyName, Name: l[29].Decls[0].Name}}
	if _, f := world.Build(l); f.Err != api.ErrCycle {
		t.Errorf("a long circle: %+v", f)
	}
}
