package reveal_test

import (
	"slices"
	"testing"

	"trestle/api"
	"trestle/reveal"
	"trestle/types"
	"trestle/world"
)

// Every row of the chapter's table of examples.
func TestExamples(t *testing.T) {
	l := parse(t, example)
	expectFault(t, l, api.Fault{})
	expectFault(t, parse(t, swapped(t, example, "REVEAL A.T = R; ", "")), fault(api.ErrFull, 2))
	expectFault(t, parse(t, swapped(t, example, "VAR t: A.T := NIL;", "VAR t: A.T := NIL; REVEAL A.T = ROOT BRANDED \"s\" OBJECT END;")), fault(api.ErrFull, 202))
	expectFault(t, parse(t, swapped(t, example, "VAR t: A.T := NIL;", "REVEAL A.T = ROOT BRANDED \"s\" OBJECT END; VAR t: A.T := NIL;")), fault(api.ErrFull, 201))
	expectFault(t, parse(t, swapped(t, example, "TYPE T <: ROOT;", "TYPE T <: ROOT; REVEAL T <: REF INTEGER;")), fault(api.ErrLine, 3))
	s := sightOf(t, l)
	expect(t, "Sees(1)", sees(t, s, 1), []api.Reveal{{Name: "A.T", Full: true, Type: 6}})
	expect(t, "Sees(2)", sees(t, s, 2), nil)
	expect(t, "Real(0)", realOf(t, s, 0), 6)
	g := concrete(t, s)
	expect(t, "the Kinds", []uint8{g[0].Kind, g[2].Kind}, []uint8{api.KdObject, api.KdRef})
	expect(t, "the Part of 2", g[2].Parts, []api.Part{{Type: 6}})
	expect(t, "Line(0)", line(t, s, 0), []int{6, 1})
	expect(t, "Known", []int{known(t, s, 1, 0), known(t, s, 2, 0)}, []int{6, 1})
	if i, e := s.Known(0, 5); i != 0 || e != api.ErrNone {
		t.Errorf("Known(0, 5): %d, %v", i, e)
	}
	if printOf(t, s, 0) != printOf(t, s, 6) || printOf(t, s, 1) == printOf(t, s, 0) {
		t.Error("prints")
	}
}

// A library may have no unit, no opaque type, and no revelation.
func TestNothingToReveal(t *testing.T) {
	expectFault(t, nil, api.Fault{})
	s := sightOf(t, nil)
	expect(t, "the concrete graph", concrete(t, s), nil)
	expect(t, "the world", worldOf(t, s), api.World{})
	if _, e := s.Sees(0); e != api.ErrArg {
		t.Errorf("Sees of no unit: %v", e)
	}
	if _, e := s.Real(0); e != api.ErrArg {
		t.Errorf("Real of no type: %v", e)
	}
	s = open(t, "INTERFACE I; TYPE P = ROOT OBJECT next: P; END; VAR i: INTEGER; END I. MODULE M; IMPORT I; VAR p: REF I.P; END M.")
	w := worldOf(t, s)
	expect(t, "the concrete graph", concrete(t, s), w.Graph)
	for unit := range 2 {
		expect(t, "what a unit sees", sees(t, s, unit), nil)
		env(t, s, unit)
	}
	for i := range w.Graph {
		expect(t, "Real", realOf(t, s, i), i)
		if l, e := s.Line(i); len(l) > 0 || e != api.ErrNone {
			t.Errorf("Line(%d): %v, %v", i, l, e)
		}
	}
}

// A unit sees what stands in itself, and in the interfaces that it imports or exports, and nothing else.
func TestSees(t *testing.T) {
	const src = `
INTERFACE A; TYPE T <: ROOT; TYPE U <: ROOT; END A.
INTERFACE B; IMPORT A; TYPE P = ROOT OBJECT END; REVEAL A.T <: P; END B.
INTERFACE C; IMPORT B; END C.
MODULE A; IMPORT B; REVEAL A.T = B.P BRANDED "t" OBJECT END; REVEAL U <: ROOT; END A.
MODULE B; END B.
MODULE C EXPORTS A, C; REVEAL A.U = ROOT BRANDED "u" OBJECT END; END C.
MODULE D EXPORTS B; IMPORT A; REVEAL A.U <: ROOT; END D.
MODULE E; IMPORT A, C; END E.`
	s := open(t, src)
	p := typeOf(t, worldOf(t, s), "B.P")
	inB := []string{shown(api.Reveal{Name: "A.T", Type: p})}
	for unit, want := range [][]string{nil, inB, inB, append(inB[:1:1], "A.T"), inB, {"A.U"}, append(inB[:1:1], "A.U"), nil} {
		got := sees(t, s, unit)
		n := len(want)
		if unit == 3 {
			n = 3 // and what U lies below
		}
		if len(got) != n {
			t.Errorf("unit %d sees %+v", unit, got)
			continue
		}
		for i, x := range want {
			if shown(got[i]) != x && got[i].Name != x {
				t.Errorf("unit %d sees %+v", unit, got)
			}
		}
	}
	all := sees(t, s, 3)
	if !all[1].Full || all[2].Full || all[2].Name != "A.U" {
		t.Errorf("the module A sees %+v", all)
	}
}

// A unit that exports an interface by its own name sees it, and one that exports another one by name does not see that.
func TestExports(t *testing.T) {
	const faces = "INTERFACE A; TYPE T <: ROOT; END A. INTERFACE B; IMPORT A; REVEAL A.T <: ROOT; END B. MODULE X; IMPORT A; REVEAL A.T = ROOT BRANDED \"t\" OBJECT END; END X. "
	for src, want := range map[string]int{
		"MODULE B; END B.":                                           1,
		"MODULE B EXPORTS B; END B.":                                 1,
		"MODULE M EXPORTS B; END M.":                                 1,
		"MODULE M EXPORTS A, B; END M.":                              1,
		"MODULE M EXPORTS A; IMPORT B; END M.":                       1,
		"MODULE M EXPORTS A; END M.":                                 0,
		"MODULE M; END M.":                                           0,
		"INTERFACE C; IMPORT B; END C.":                              1,
		"INTERFACE C; IMPORT A; END C.":                              0,
		"MODULE B EXPORTS B; IMPORT A; REVEAL A.T <: REFANY; END B.": -1,
		"MODULE M EXPORTS B; IMPORT A; REVEAL A.T <: ROOT; REVEAL A.T <: ROOT; END M. ": 3,
	} {
		l := parse(t, faces+src)
		if want < 0 {
			expectFault(t, l, fault(api.ErrLine, 301))
			continue
		}
		if got := sees(t, sightOf(t, l), 3); len(got) != want {
			t.Errorf("%s sees %+v", src, got)
		}
	}
}

// What each unit sees, and its environment, as the chapter's definition says.
func TestSeesByDefinition(t *testing.T) {
	some := 0
	libraries(2, 150, func(_ *generator, l []api.Unit) {
		s := sightOf(t, l)
		w := worldOf(t, s)
		for unit := range l {
			want := seesByDefinition(l, w, unit)
			expect(t, "Sees", sees(t, s, unit), want)
			v := envOf(t, w.Graph, want)
			got := env(t, s, unit)
			for a := range w.Graph {
				x, _ := got.Above(a)
				y, _ := v.Above(a)
				expect(t, "Above of an environment", x, y)
			}
			if len(want) > 0 && len(want) < len(w.Shown) {
				some++
			}
		}
	})
	if some < 100 {
		t.Errorf("few units that see some revelations: %d", some)
	}
}

// The world of a sight is the one of the layer below.
func TestWorld(t *testing.T) {
	libraries(3, 60, func(_ *generator, l []api.Unit) {
		w, _ := world.Build(l)
		expect(t, "the world", worldOf(t, sightOf(t, l)), w)
	})
}

// Real, Concrete and Print as the chapter's definitions say.
func TestConcreteByDefinition(t *testing.T) {
	libraries(4, 150, func(_ *generator, l []api.Unit) {
		s := sightOf(t, l)
		w := worldOf(t, s)
		want := concreteByDefinition(w.Graph, revealsOf(w))
		if g := concrete(t, s); !types.Same(g, want) {
			t.Fatalf("the concrete graph is %+v instead of %+v", g, want)
		}
		for i := range w.Graph {
			expect(t, "Real", realOf(t, s, i), reallyIs(w.Graph, revealsOf(w), i))
			print, _ := types.Print(want, i)
			expect(t, "Print", printOf(t, s, i), print)
		}
	})
}

// Each index in a type of the concrete graph is that of what the type to which it refers really is: Supers, fields, elements, arguments and results.
func TestReferences(t *testing.T) {
	s := open(t, `
INTERFACE A; TYPE T <: ROOT;
TYPE O = T OBJECT f: T; g: REF T; METHODS m(a: T; b: INTEGER; c: T): T; n(); o(): INTEGER; END;
VAR v: REF ARRAY OF T; VAR r: REF RECORD a: INTEGER; b: T; END; VAR t: T;
END A.
MODULE A; TYPE R = ROOT BRANDED "r" OBJECT own: T; METHODS k(a: T): T RAISES {ALERTED} := p; END; REVEAL T = R; PROCEDURE p(r: R; a: T): T RAISES {ALERTED} = BEGIN RETURN NIL END p; END A.`)
	w, g := worldOf(t, s), concrete(t, s)
	r, o := typeOf(t, w, "A.R"), typeOf(t, w, "A.O")
	expect(t, "what A.T really is", realOf(t, s, typeOf(t, w, "A.T")), r)
	if x := g[o]; x.Super != r || x.Parts[0].Type != r || g[x.Parts[1].Type].Parts[0].Type != r {
		t.Errorf("the object type: %+v", x)
	}
	expect(t, "the signatures", [][]int{g[o].Methods[0].Sig.Args[:1], g[o].Methods[0].Sig.Args[2:], {g[o].Methods[0].Sig.Result, g[o].Methods[1].Sig.Result}}, [][]int{{r}, {r}, {r, -1}})
	if n := g[o].Methods[2].Sig.Result; g[n].Kind != api.KdInteger {
		t.Errorf("the result INTEGER is %+v", g[n])
	}
	if x := g[r]; x.Parts[0].Type != r || shown(x.Methods) != shown([]api.Method{{Name: "k", Sig: api.Sig{Args: []int{r}, Result: r, Raises: []string{"ALERTED"}}, Proc: "A.p"}}) {
		t.Errorf("what A.T really is: %+v", x)
	}
	if x := g[typeOf(t, w, "A.T")]; shown(x) != shown(g[r]) {
		t.Errorf("A.T is %+v, not %+v", x, g[r])
	}
	for _, v := range w.Vars {
		x := g[v.Type]
		switch v.Name {
		case "A.v":
			expect(t, "the elements", x.Parts, []api.Part{{Type: r}})
		case "A.r":
			expect(t, "the last field", x.Parts[1], api.Part{Name: "b", Type: r})
		case "A.t":
			expect(t, "the variable", v.Type, typeOf(t, w, "A.T"))
		}
	}
}

// Lines of opaque types, by the names of their types; "bound" is the node behind TYPE T <:, "1" the type of the first revelation.
func TestLines(t *testing.T) {
	const face = "INTERFACE A; TYPE O = ROOT OBJECT o: INTEGER; END; TYPE P = O OBJECT p: INTEGER; END; TYPE Q = O OBJECT p: INTEGER; END; TYPE T <: ROOT; END A. "
	const full = "TYPE R = A.P BRANDED \"r\" OBJECT END; REVEAL A.T = R; "
	m := func(decls string) string { return "MODULE M; IMPORT A; " + decls + "END M. " }
	for src, want := range map[string][]string{
		face + m(full): {"M.R", "bound"},
		face + m(full+"REVEAL A.T <: A.O; REVEAL A.T <: A.P; "):                    {"M.R", "A.P", "A.O", "bound"},
		face + m("REVEAL A.T <: A.O; "+full+"REVEAL A.T <: A.P; "):                 {"M.R", "A.P", "A.O", "bound"},
		face + m("REVEAL A.T <: A.P; REVEAL A.T <: A.O; REVEAL A.T <: A.P; "+full): {"M.R", "A.P", "A.O", "bound"},
		// P and Q are the same: the lesser index comes first, in whichever order they are revealed.
		face + m("REVEAL A.T <: A.Q; REVEAL A.T <: A.P; "+full): {"M.R", "A.P", "A.Q", "bound"},
		face + m("REVEAL A.T <: A.P; REVEAL A.T <: A.Q; "+full): {"M.R", "A.P", "A.Q", "bound"},
		// R is the same as S, which stands ahead of it.
		face + m("TYPE S = A.P BRANDED \"r\" OBJECT END; "+full+"REVEAL A.T <: S; "):             {"M.S", "M.R", "bound"},
		face + m(full+"TYPE S = A.P BRANDED \"r\" OBJECT END; REVEAL A.T <: S; "):                {"M.R", "M.S", "bound"},
		m(full+"REVEAL A.T <: A.Q; ") + face:                                                     {"M.R", "A.Q", "bound"},
		"INTERFACE A; TYPE P = MUTEX OBJECT END; TYPE T <: P; END A. " + m(full):                 {"M.R", "A.P"},
		"INTERFACE A; TYPE P = MUTEX OBJECT END; TYPE T <: P; REVEAL T <: P; END A. " + m(full):  {"M.R", "A.P"},
		"INTERFACE A; TYPE T <: REFANY; TYPE P = ROOT OBJECT END; END A. " + m(full):             {"M.R", "bound"},
		"INTERFACE A; TYPE T <: REFANY; REVEAL T <: REF INTEGER; END A. " + m("REVEAL A.T = T;"): nil,
	} {
		l := parse(t, src)
		if want == nil {
			expectFault(t, l, fault(api.ErrName, 101))
			continue
		}
		s := sightOf(t, l)
		w := worldOf(t, s)
		var list []int
		for _, name := range want {
			if name == "bound" {
				list = append(list, w.Graph[typeOf(t, w, "A.T")].Super)
			} else {
				list = append(list, typeOf(t, w, name))
			}
		}
		if got := line(t, s, typeOf(t, w, "A.T")); !slices.Equal(got, list) {
			t.Errorf("the line is %v instead of %v (%v), of\n%s", got, list, want, src)
		}
	}
}

// The bound may be opaque, too: it stands in the line as itself, wherever what it really is stands.
func TestOpaqueBound(t *testing.T) {
	const src = `
INTERFACE A; TYPE T <: ROOT; TYPE U <: T; END A.
MODULE M; IMPORT A; TYPE P = ROOT BRANDED "p" OBJECT END; TYPE Q = P BRANDED "q" OBJECT END; REVEAL A.T = P; REVEAL A.U = Q; END M.
MODULE N; IMPORT A; REVEAL A.U <: A.T; END N.
`
	s := open(t, src)
	w := worldOf(t, s)
	at, u, p, q := typeOf(t, w, "A.T"), typeOf(t, w, "A.U"), typeOf(t, w, "M.P"), typeOf(t, w, "M.Q")
	expect(t, "the line of U", line(t, s, u), []int{q, at})
	expect(t, "the line of T", line(t, s, at), []int{p, w.Graph[at].Super})
	expect(t, "what U is known as", []int{known(t, s, 0, u), known(t, s, 1, u), known(t, s, 2, u)}, []int{at, q, at})
	expect(t, "what U really is", []int{realOf(t, s, u), realOf(t, s, at)}, []int{q, p})
	// Both may really be the same: then the lesser index comes first.
	s = open(t, swapped(t, src, "REVEAL A.U = Q;", "REVEAL A.U = P;"))
	expect(t, "the line of U", line(t, s, u), []int{at, p})
	expect(t, "what U is known as", []int{known(t, s, 0, u), known(t, s, 1, u)}, []int{at, at})
	if printOf(t, s, u) != printOf(t, s, at) {
		t.Error("both are really the same")
	}
}

// What stands first in the line is known of what is the bound, or is revealed to the unit.
func TestKnown(t *testing.T) {
	s := open(t, `
INTERFACE A; TYPE T <: ROOT; TYPE V <: ROOT; END A.
INTERFACE B; IMPORT A; TYPE O = ROOT OBJECT o: INTEGER; END; REVEAL A.T <: O; END B.
INTERFACE C; IMPORT A, B; TYPE P = B.O OBJECT p: INTEGER; END; REVEAL A.T <: P; END C.
MODULE A; IMPORT C; REVEAL T = C.P BRANDED "r" OBJECT END; REVEAL V = C.P BRANDED "v" OBJECT END; END A.
MODULE M; IMPORT A; END M.
MODULE N; IMPORT A, B; END N.
MODULE O; IMPORT B, C; END O.
MODULE P; IMPORT A, C; REVEAL A.T <: ROOT; END P.`[1:])
	w := worldOf(t, s)
	at, v, o, p := typeOf(t, w, "A.T"), typeOf(t, w, "A.V"), typeOf(t, w, "B.O"), typeOf(t, w, "C.P")
	r, bound, ofV := realOf(t, s, at), w.Graph[at].Super, w.Graph[v].Super
	var got, others []int
	for unit := range 8 {
		got, others = append(got, known(t, s, unit, at)), append(others, known(t, s, unit, v))
	}
	expect(t, "what T is known as", got, []int{bound, o, p, r, bound, o, p, p})
	expect(t, "what V is known as", others, []int{ofV, ofV, ofV, realOf(t, s, v), ofV, ofV, ofV, ofV})
}

// What an interface reveals in full all see that import it; who imports it only then knew less before.
func TestFullInInterface(t *testing.T) {
	const src = `
INTERFACE A; TYPE T <: ROOT; TYPE R = ROOT BRANDED "r" OBJECT END; END A.
INTERFACE B; IMPORT A; REVEAL A.T = A.R; END B.
MODULE M; IMPORT A, B; END M.
MODULE N; IMPORT A; END N.
INTERFACE C; IMPORT B; END C.`
	s := open(t, src)
	w := worldOf(t, s)
	at, r := typeOf(t, w, "A.T"), typeOf(t, w, "A.R")
	bound := w.Graph[at].Super
	for unit, want := range []int{bound, r, r, bound, r} {
		expect(t, "what T is known as", known(t, s, unit, at), want)
		expect(t, "T lies below R", below(t, env(t, s, unit), at, r), want == r)
		expect(t, "R lies below T", below(t, env(t, s, unit), r, at), want == r)
	}
	more := open(t, swapped(t, src, "MODULE N; IMPORT A;", "MODULE N; IMPORT A, B;"))
	expect(t, "what T is known as with an import more", known(t, more, 3, at), r)
	expect(t, "what is seen with an import more", sees(t, more, 3), []api.Reveal{{Name: "A.T", Full: true, Type: r}})
}

// Lines, and what is known, of libraries made by chance.
func TestLinesByDefinition(t *testing.T) {
	lengths := map[int]int{}
	libraries(5, 300, func(_ *generator, l []api.Unit) {
		s := sightOf(t, l)
		w := worldOf(t, s)
		for i, x := range w.Graph {
			list, e := s.Line(i)
			if x.Kind != api.KdOpaque {
				if len(list) > 0 || e != api.ErrNone {
					t.Fatalf("the line of what is not opaque: %v, %v", list, e)
				}
				continue
			}
			if e != api.OK || !isLine(t, w, i, list) {
				t.Fatalf("the line of %d is %v, %v, of\n%s", i, list, e, text(l))
			}
			lengths[len(list)]++
			for unit := range l {
				of := []int{x.Super}
				for _, r := range seesByDefinition(l, w, unit) {
					if r.Name == x.Opaque {
						of = append(of, r.Type)
					}
				}
				for len(list) > 0 && !slices.Contains(of, list[0]) {
					list = list[1:]
				}
				if k := known(t, s, unit, i); k != list[0] {
					t.Fatalf("%d is known as %d in unit %d, not as %d, of\n%s", i, k, unit, list[0], text(l))
				}
				list = line(t, s, i)
			}
		}
	})
	if lengths[2] < 50 || lengths[3] < 50 || lengths[4] < 10 {
		t.Errorf("few lines of some lengths: %v", lengths)
	}
}

// The errors of methods: of a nil sight, of a unit and of a type that there is not, and of a type that is not opaque.
func TestErrors(t *testing.T) {
	var none *reveal.Sight
	s := open(t, example)
	for _, c := range []struct {
		s       *reveal.Sight
		unit, t int
		ofUnit  api.Errno // of Sees and Env
		ofType  api.Errno // of Real and Print
		ofLine  api.Errno
		known   api.Errno
	}{
		{none, 0, 0, api.ErrNil, api.ErrNil, api.ErrNil, api.ErrNil},
		{none, -1, 99, api.ErrNil, api.ErrNil, api.ErrNil, api.ErrNil},
		{s, 0, 0, api.OK, api.OK, api.OK, api.OK},
		{s, 2, 0, api.OK, api.OK, api.OK, api.OK},
		{s, 3, 0, api.ErrArg, api.OK, api.OK, api.ErrArg},
		{s, -1, 0, api.ErrArg, api.OK, api.OK, api.ErrArg},
		{s, -1 << 63, 1<<63 - 1, api.ErrArg, api.ErrArg, api.ErrArg, api.ErrArg},
		{s, 0, 7, api.OK, api.OK, api.ErrNone, api.ErrNone},
		{s, 0, 8, api.OK, api.ErrArg, api.ErrArg, api.ErrArg},
		{s, 0, -1, api.OK, api.ErrArg, api.ErrArg, api.ErrArg},
		{s, 3, 1, api.ErrArg, api.OK, api.ErrNone, api.ErrArg},
		{s, 2, 1, api.OK, api.OK, api.ErrNone, api.ErrNone},
	} {
		list, e1 := c.s.Sees(c.unit)
		v, e2 := c.s.Env(c.unit)
		i, e3 := c.s.Real(c.t)
		print, e4 := c.s.Print(c.t)
		row, e5 := c.s.Line(c.t)
		k, e6 := c.s.Known(c.unit, c.t)
		expect(t, "errors", []api.Errno{e1, e2, e3, e4, e5, e6}, []api.Errno{c.ofUnit, c.ofUnit, c.ofType, c.ofType, c.ofLine, c.known})
		if e1 != api.OK && len(list) > 0 || (e2 == api.OK) != (v != nil) || e3 != api.OK && i != 0 || (e4 == api.OK) != (print != "") || (e5 == api.OK) != (len(row) > 0) || e6 != api.OK && k != 0 {
			t.Errorf("unit %d and type %d: %v, %v, %d, %q, %v, %d", c.unit, c.t, list, v, i, print, row, k)
		}
	}
	if w, e := none.World(); e != api.ErrNil || shown(w) != shown(api.World{}) {
		t.Errorf("the world of none: %+v, %v", w, e)
	}
	if g, e := none.Concrete(); e != api.ErrNil || len(g) > 0 {
		t.Errorf("the concrete graph of none: %+v, %v", g, e)
	}
}
