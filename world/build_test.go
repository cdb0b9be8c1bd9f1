package world_test

import (
	"slices"
	"strings"
	"testing"

	"trestle/api"
	"trestle/tree"
	"trestle/types"
	"trestle/world"
)

// F1: the key of a unit, whatever else it is.
func TestKey(t *testing.T) {
	for _, x := range []struct {
		u    api.Unit
		want string
	}{
		{api.Unit{Kind: api.UnInterface, Name: "A"}, "A."},
		{api.Unit{Kind: api.UnModule, Name: "A"}, "A"},
		{api.Unit{Kind: api.UnInterface, Name: "Main", Generic: true, Formals: []string{"E"}}, "Main."},
		{api.Unit{Kind: api.UnModule, Name: "Main", Of: "G", Actuals: []string{"A"}}, "Main"},
		{api.Unit{Kind: api.UnInterface}, "."},
		{api.Unit{Kind: api.UnModule}, ""},
	} {
		if got := world.Key(x.u); got != x.want {
			t.Errorf("Key of %+v: %q instead of %q", x.u, got, x.want)
		}
	}
}

// The chapter's examples of Build.
func TestExample(t *testing.T) {
	w := build(t, exampleA+exampleBody+exampleMain)
	expect(t, "Consts", w.Consts, []api.Const{{Name: "A.N", N: 6}})
	expect(t, "Types", w.Types, []api.Part{{Name: "A.R", Type: 6}, {Name: "A.T", Type: 0}})
	expect(t, "Vars", w.Vars, []api.Part{{Name: "A.v", Type: 2}, {Name: "Main.t", Type: 0}})
	expect(t, "Excs", w.Excs, []string{"A.E"})
	expect(t, "Shown", w.Shown, []api.Shown{{Unit: "A", Reveal: api.Reveal{Name: "A.T", Full: true, Type: 6}}})
	expect(t, "Units", w.Units, []string{"A.", "A", "Main"})
	expect(t, "Order", w.Order, []string{"A.", "A", "Main"})
	expect(t, "Graph", w.Graph, api.Graph{
		{Kind: api.KdOpaque, Opaque: "A.T", Super: 1}, {Kind: api.KdRoot}, {Kind: api.KdRef, Parts: []api.Part{{Type: 0}}}, {Kind: api.KdInteger},
		{Kind: api.KdRoot}, {Kind: api.KdRange, High: 6}, {Kind: api.KdObject, Branded: true, Brand: "r", Super: 4, Parts: []api.Part{{Name: "n", Type: 5}}}, {Kind: api.KdInteger},
	})
	if len(w.Procs) != 1 {
		t.Fatalf("Procs: %+v", w.Procs)
	}
	p := w.Procs[0]
	expect(t, "the procedure", []any{p.Name, p.Module, p.Sig.Result, p.Sig.Raises}, []any{"A.new", "A", 0, []string{"A.E"}})
	if len(p.Sig.Args) != 1 || w.Graph[p.Sig.Args[0]].Kind != api.KdInteger {
		t.Errorf("the signature %+v", p.Sig)
	}
}

// F1: no unit, and units without anything.
func TestNoUnits(t *testing.T) {
	expect(t, "the world of no units", worldOf(t, nil), api.World{})
	expect(t, "the world of no units", worldOf(t, []api.Unit{}), api.World{})
	expect(t, "the world of an empty unit", build(t, "MODULE M; END M."), api.World{Units: []string{"M"}, Order: []string{"M"}})
	expect(t, "the world of an empty unit", build(t, "INTERFACE M; END M."), api.World{Units: []string{"M."}, Order: []string{"M."}})
}

// F1: lists ascend by symbols, whatever the order of units and declarations; revelations have theirs.
func TestLists(t *testing.T) {
	const b = "INTERFACE B; VAR z: INTEGER; CONST z1 = TRUE; EXCEPTION y; TYPE T <: REFANY; CONST a = FALSE; PROCEDURE q(); TYPE S <: ROOT; PROCEDURE Q(); EXCEPTION A; VAR Z: BOOLEAN; END B. "
	const a = "MODULE A; IMPORT B; REVEAL B.T <: ROOT; VAR b: INTEGER; TYPE z = INTEGER; CONST k = -3; REVEAL B.S = BRANDED \"s\" REF INTEGER; PROCEDURE p() RAISES {B.y, e, ALERTED, B.A} = BEGIN END p; EXCEPTION e; REVEAL B.T <: ROOT; TYPE Z = z; END A. "
	const body = "MODULE C EXPORTS B; PROCEDURE q() = BEGIN END q; REVEAL T = BRANDED \"t\" REF BOOLEAN; PROCEDURE Q() = BEGIN END Q; PROCEDURE p() = BEGIN END p; END C. "
	w := build(t, b+a+body)
	expect(t, "Consts", w.Consts, []api.Const{{Name: "A.k", N: -3}, {Name: "B.a", Bool: true}, {Name: "B.z1", Bool: true, N: 1}})
	expect(t, "Excs", w.Excs, []string{"A.e", "B.A", "B.y"})
	// Of B: z 0, T 1 and 2, S 3 and 4, Z 5; of A: ROOT 6, b 7, z 8, S 9 and 10, ROOT 11; of C: T 12 and 13.
	expect(t, "Types", w.Types, []api.Part{{Name: "A.Z", Type: 8}, {Name: "A.z", Type: 8}, {Name: "B.S", Type: 3}, {Name: "B.T", Type: 1}})
	expect(t, "Vars", w.Vars, []api.Part{{Name: "A.b", Type: 7}, {Name: "B.Z", Type: 5}, {Name: "B.z", Type: 0}})
	none := api.Sig{Result: -1}
	expect(t, "Procs", w.Procs, []api.Heading{
		{Name: "A.p", Sig: api.Sig{Result: -1, Raises: []string{"A.e", "ALERTED", "B.A", "B.y"}}, Module: "A"},
		{Name: "B.Q", Sig: none, Module: "C"}, {Name: "B.q", Sig: none, Module: "C"}, {Name: "C.p", Sig: none, Module: "C"},
	})
	expect(t, "Shown", w.Shown, []api.Shown{
		{Unit: "A", Reveal: api.Reveal{Name: "B.T", Type: 6}}, {Unit: "A", Reveal: api.Reveal{Name: "B.S", Full: true, Type: 10}},
		{Unit: "A", Reveal: api.Reveal{Name: "B.T", Type: 11}}, {Unit: "C", Reveal: api.Reveal{Name: "B.T", Full: true, Type: 13}},
	})
	expect(t, "Units", w.Units, []string{"B.", "A", "C"})
}

// F1: revelations in interfaces have the keys of these.
func TestShownInInterfaces(t *testing.T) {
	w := build(t, "INTERFACE A; TYPE T <: REFANY; REVEAL T <: ROOT; END A. INTERFACE B; IMPORT A; REVEAL A.T <: MUTEX; END B. MODULE B; IMPORT A; REVEAL A.T = MUTEX BRANDED \"b\" OBJECT END; END B.")
	expect(t, "Shown", w.Shown, []api.Shown{{Unit: "A.", Reveal: api.Reveal{Name: "A.T", Type: 2}}, {Unit: "B.", Reveal: api.Reveal{Name: "A.T", Type: 3}}, {Unit: "B", Reveal: api.Reveal{Name: "A.T", Full: true, Type: 5}}})
}

// F1: each kind of types, in the order of the nodes; names of types lead on.
func TestGraph(t *testing.T) {
	w := build(t, "MODULE M; CONST lo = -2; "+
		"VAR a: BRANDED \"x y\" REF RECORD p: NULL; q: REFANY; END; VAR b: BRANDED \"z\" REF ARRAY OF CONDITION; VAR c: BRANDED \"\\\" REF BOOLEAN; "+
		"VAR d: N OBJECT f: MUTEX; g: d1; METHODS m(x: [lo .. lo * lo]; y: d1): d2 RAISES {e, ALERTED} := p; n(); OVERRIDES o := p; n := p; END; "+
		"TYPE d2 = d1; TYPE d1 = N; TYPE N = ROOT OBJECT END; EXCEPTION e; PROCEDURE p(x: INTEGER) = BEGIN END p; VAR z: d2; END M.")
	part := func(name string, t int) []api.Part { return []api.Part{{Name: name, Type: t}} }
	expect(t, "Graph", w.Graph, api.Graph{
		{Kind: api.KdNull}, {Kind: api.KdAny}, {Kind: api.KdRecord, Branded: true, Brand: "x y", Parts: append(part("p", 0), part("q", 1)...)},
		{Kind: api.KdCondition}, {Kind: api.KdArray, Branded: true, Brand: "z", Parts: part("", 3)},
		{Kind: api.KdBoolean}, {Kind: api.KdRef, Branded: true, Brand: "\\", Parts: part("", 5)},
		{Kind: api.KdMutex}, {Kind: api.KdRange, Low: -2, High: 4},
		{Kind: api.KdObject, Super: 11, Parts: append(part("f", 7), part("g", 11)...), Methods: []api.Method{
			{Name: "m", Sig: api.Sig{Args: []int{8, 11}, Result: 11, Raises: []string{"ALERTED", "M.e"}}, Proc: "M.p"}, {Name: "n", Sig: api.Sig{Result: -1}},
		}, Overs: []api.Over{{Name: "o", Proc: "M.p"}, {Name: "n", Proc: "M.p"}}},
		{Kind: api.KdRoot}, {Kind: api.KdObject, Super: 10}, {Kind: api.KdInteger},
	})
	expect(t, "Types", w.Types, []api.Part{{Name: "M.N", Type: 11}, {Name: "M.d1", Type: 11}, {Name: "M.d2", Type: 11}})
	expect(t, "Vars", w.Vars, []api.Part{{Name: "M.a", Type: 2}, {Name: "M.b", Type: 4}, {Name: "M.c", Type: 6}, {Name: "M.d", Type: 9}, {Name: "M.z", Type: 11}})
	expect(t, "Procs", w.Procs, []api.Heading{{Name: "M.p", Sig: api.Sig{Args: []int{12}, Result: -1}, Module: "M"}})
}

// F1: an opaque type stands ahead of the types of its nodes, and has its bound as Super, also by a name.
func TestOpaque(t *testing.T) {
	w := build(t, "INTERFACE I; VAR v: INTEGER; TYPE A <: B; TYPE B <: MUTEX; TYPE C = A; TYPE D <: C; TYPE E <: REFANY; VAR w: D; END I. MODULE M; IMPORT I; VAR x: I.C; VAR y: I.D; VAR z: I.E OBJECT END; END M.")
	opaque := func(name string, super int) api.Ty {
		return api.Ty{Kind: api.KdOpaque, Opaque: name, Super: super}
	}
	expect(t, "Graph", w.Graph, api.Graph{
		{Kind: api.KdInteger}, opaque("I.A", 2), opaque("I.B", 3), {Kind: api.KdMutex}, opaque("I.D", 1), opaque("I.E", 6), {Kind: api.KdAny}, {Kind: api.KdObject, Super: 5},
	})
	expect(t, "Types", w.Types, []api.Part{{Name: "I.A", Type: 1}, {Name: "I.B", Type: 2}, {Name: "I.C", Type: 1}, {Name: "I.D", Type: 4}, {Name: "I.E", Type: 5}})
	expect(t, "Vars", w.Vars, []api.Part{{Name: "I.v", Type: 0}, {Name: "I.w", Type: 4}, {Name: "M.x", Type: 1}, {Name: "M.y", Type: 4}, {Name: "M.z", Type: 7}})
}

// Words: what is looked up in the unit in which it stands, and not in that which names it.
func TestNamesWhereTheyStand(t *testing.T) {
	w := build(t, "INTERFACE A; CONST n = 1; CONST m = n + 1; TYPE T = BOOLEAN; TYPE U = T; TYPE V = REF ARRAY OF T; VAR r: [n .. m]; EXCEPTION e; PROCEDURE p(t: T) RAISES {e}; END A. "+
		"MODULE M; IMPORT A; CONST n = 10; CONST k = A.m + n; TYPE T = INTEGER; VAR u: A.U; VAR v: A.V; VAR t: T; EXCEPTION e; PROCEDURE p(t: T) RAISES {e, A.e} = BEGIN END p; TYPE O = ROOT OBJECT METHODS a() := A.p; b() := p; END; END M. "+
		"MODULE A; PROCEDURE p(t: T) RAISES {e} = BEGIN END p; TYPE O = ROOT OBJECT METHODS a() := A.p; b() := p; END; END A.")
	expect(t, "Consts", w.Consts, []api.Const{{Name: "A.m", N: 2}, {Name: "A.n", N: 1}, {Name: "M.k", N: 12}, {Name: "M.n", N: 10}})
	kind := map[string]uint8{}
	for _, v := range w.Vars {
		kind[v.Name] = w.Graph[v.Type].Kind
	}
	expect(t, "the kinds", kind, map[string]uint8{"A.r": api.KdRange, "M.u": api.KdBoolean, "M.v": api.KdArray, "M.t": api.KdInteger})
	var procs []string
	for _, x := range w.Graph {
		for _, m := range x.Methods {
			procs = append(procs, m.Proc)
		}
	}
	expect(t, "the procedures of methods", procs, []string{"A.p", "M.p", "A.p", "A.p"})
	expect(t, "what is raised", [][]string{w.Procs[0].Sig.Raises, w.Procs[1].Sig.Raises}, [][]string{{"A.e"}, {"A.e", "M.e"}})
}

// Words: a name of another unit is another one, though it be the same without its qualifier.
func TestSameNames(t *testing.T) {
	w := build(t, "INTERFACE A; CONST X = 1; TYPE T = U; TYPE U = INTEGER; END A. MODULE M; IMPORT A; CONST X = A.X + 1; TYPE T = A.T; TYPE U = A.U; END M.")
	expect(t, "Consts", w.Consts, []api.Const{{Name: "A.X", N: 1}, {Name: "M.X", N: 2}})
	expect(t, "Types", w.Types, []api.Part{{Name: "A.T"}, {Name: "A.U"}, {Name: "M.T"}, {Name: "M.U"}})
}

// P6.2: symbols are different, and procedures of interfaces are implemented once, by a module that exports these.
func TestOnce(t *testing.T) {
	libraries(62, 150, func(_ *generator, l []api.Unit) {
		w := worldOf(t, l)
		var symbols []string
		for _, c := range w.Consts {
			symbols = append(symbols, c.Name)
		}
		for _, p := range slices.Concat(w.Types, w.Vars) {
			symbols = append(symbols, p.Name)
		}
		symbols = append(symbols, w.Excs...)
		module := map[string]string{}
		for _, p := range w.Procs {
			symbols = append(symbols, p.Name)
			module[p.Name] = p.Module
		}
		slices.Sort(symbols)
		if len(slices.Compact(slices.Clone(symbols))) < len(symbols) {
			t.Fatalf("symbols twice: %v, of\n%s", symbols, text(l))
		}
		for _, u := range l {
			for _, d := range u.Decls {
				if u.Kind == api.UnInterface && d.Kind == api.DcProc {
					expectImplemented(t, l, u.Name, d.Name, module[u.Name+"."+d.Name])
				}
			}
		}
	})
}

// expectImplemented holds units against that just one of them, a certain module, has a procedure with a name and exports an interface.
func expectImplemented(t *testing.T, l []api.Unit, in, name, module string) {
	t.Helper()
	var by []string
	for i, u := range l {
		exports, _ := world.Exports(l, i)
		if _, e := tree.Declared(u, name); e == api.OK && slices.Contains(exports, in) {
			by = append(by, world.Key(u))
		}
	}
	if !slices.Equal(by, []string{module}) {
		t.Fatalf("%s.%s is implemented by %v, not by %s, of\n%s", in, name, by, module, text(l))
	}
}

// P6.5: with other bodies the world is the same.
func TestOtherBodies(t *testing.T) {
	other := parse(t, "MODULE M; BEGIN x := nothing; VAR y: Nothing := nobody.x(1); RAISE Nobody END M.")[0].Body
	value := expr(t, "NEW(Nothing) + nothing")
	libraries(65, 150, func(g *generator, l []api.Unit) {
		before := shown(worldOf(t, l))
		c := copiesOf(l)
		for i, u := range c {
			if u.Kind == api.UnModule {
				c[i].Body = oneOf(g.Rand, u.Body, other)
			}
			for k, d := range u.Decls {
				if d.Kind == api.DcProc && u.Kind == api.UnModule {
					u.Decls[k].Body = oneOf(g.Rand, d.Body, other)
				}
				if d.Kind == api.DcVar {
					u.Decls[k].Body = oneOf(g.Rand, d.Body, value, nil)
				}
			}
		}
		if after := shown(worldOf(t, c)); after != before {
			t.Fatalf("with other bodies: %s instead of %s, of\n%s", after, before, text(l))
		}
	})
}

// P6.6: the order of the units does not matter but for theirs.
func TestAnyOrder(t *testing.T) {
	seen := map[bool]int{}
	anyLibraries(66, 450, func(g *generator, l []api.Unit) {
		other := shuffled(g.Rand, l)
		w, f := world.Build(l)
		v, h := world.Build(other)
		seen[f.Err == api.OK]++
		if (f.Err == api.OK) != (h.Err == api.OK) {
			t.Fatalf("%+v, and in another order %+v, of\n%s", f, h, text(l))
		}
		if f.Err != api.OK {
			return
		}
		expect(t, "what does not depend on the order", unordered(t, v), unordered(t, w))
		for _, x := range [][]string{w.Order, v.Order} {
			for _, y := range [][]api.Unit{l, other} {
				if ok, e := world.CheckOrder(y, x); !ok || e != api.OK {
					t.Fatalf("CheckOrder refuses %v, of\n%s", x, text(y))
				}
			}
		}
	})
	if seen[true] < 100 || seen[false] < 100 {
		t.Errorf("of few sorts: %v", seen)
	}
}

// unordered returns what of a world does not depend on the order of the units.
func unordered(t *testing.T, w api.World) []any {
	all := []any{w.Consts, w.Excs}
	for _, p := range slices.Concat(w.Types, w.Vars) {
		s, e := types.Print(w.Graph, p.Type)
		if e != api.OK {
			t.Fatalf("Print of %s: %v", p.Name, e)
		}
		all = append(all, p.Name, s)
	}
	for _, p := range w.Procs {
		all = append(all, p.Name, p.Module)
	}
	return all
}

// P6.7: with a name more for a type all is the same, but for this name.
func TestNameMore(t *testing.T) {
	libraries(67, 150, func(g *generator, l []api.Unit) {
		w := worldOf(t, l)
		i := g.IntN(len(l))
		names := g.typeNames(l, i)
		if len(names) == 0 || len(l[i].Decls) == api.MaxDecls {
			return
		}
		of := oneOf(g.Rand, names...)
		more := copiesOf(l)
		more[i].Decls = slices.Insert(more[i].Decls, g.IntN(len(l[i].Decls)+1), api.Decl{Kind: api.DcType, Name: "another", Nodes: []api.Node{of}})
		m, e := viewOf(t, l).Mean(i, of.Unit, of.Name)
		if e != api.OK {
			t.Fatalf("Mean of %+v: %v", of, e)
		}
		w.Types = append(w.Types, api.Part{Name: l[i].Name + ".another", Type: m.Type})
		slices.SortFunc(w.Types, func(a, b api.Part) int { return strings.Compare(a.Name, b.Name) })
		if got := worldOf(t, more); shown(got) != shown(w) {
			t.Fatalf("%s instead of %s, of\n%s", shown(got), shown(w), text(more))
		}
	})
}
