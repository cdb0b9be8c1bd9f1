package generic_test

import (
	"strings"
	"testing"

	"trestle/api"
	"trestle/generic"
	"trestle/tree"
)

// everywhere has formals as qualifiers, and their names elsewhere, in all places of a module.
const everywhere = `GENERIC MODULE G(E, F); IMPORT N;
CONST c = E.c + F.f(N.x, E) - E;
TYPE E = E.E OBJECT E: F.T; METHODS E(E: E.T): REF F.E RAISES {E.X, N.E, ALERTED} := E.p; OVERRIDES E := F.p; END;
TYPE T = REF RECORD a: [E.low..N.high]; b: F; END;
VAR v: E.T := F.v;
EXCEPTION F;
PROCEDURE F(E: E): F.T RAISES {F.X} = BEGIN RAISE E.X; RETURN NEW(E.T, F.n) END F;
REVEAL E.T = F.S;
REVEAL E <: Z.T;
BEGIN
  TRY E.p() EXCEPT | F.X => RAISE F | E => PUT E.E END;
  TYPECASE E.x OF | F.T (E) => E.F := F ELSE N.f(LOOPHOLE(E.x, Z.T)) END
END G.`

// G2: what comes of a generic unit and an instance.
func TestApply(t *testing.T) {
	for _, c := range []struct{ generic, instance, want string }{
		{exampleG, exampleI, "INTERFACE I; IMPORT A; TYPE S = REF ARRAY OF A.T; PROCEDURE has(s: S; x: A.T): BOOLEAN; END I."},
		{"GENERIC MODULE G(E); END G.", "MODULE M = G(A) END M.", "MODULE M; IMPORT A; END M."},
		{"GENERIC MODULE G(E); BEGIN PUT E.x END G.", "MODULE M = G(A) END M.", "MODULE M; IMPORT A; BEGIN PUT A.x END M."},
		{"GENERIC INTERFACE G(E); TYPE T = E.T; END G.", "INTERFACE I = H(A) END I.", "INTERFACE I; IMPORT A; TYPE T = A.T; END I."},
		{everywhere, "MODULE M EXPORTS E = G(A, B) END M.", `MODULE M EXPORTS E; IMPORT N, A, B;
CONST c = A.c + B.f(N.x, E) - E;
TYPE E = A.E OBJECT E: B.T; METHODS E(E: A.T): REF B.E RAISES {A.X, N.E, ALERTED} := A.p; OVERRIDES E := B.p; END;
TYPE T = REF RECORD a: [A.low..N.high]; b: F; END;
VAR v: A.T := B.v;
EXCEPTION F;
PROCEDURE F(E: E): B.T RAISES {B.X} = BEGIN RAISE A.X; RETURN NEW(A.T, B.n) END F;
REVEAL A.T = B.S;
REVEAL E <: Z.T;
BEGIN
  TRY A.p() EXCEPT | B.X => RAISE F | E => PUT A.E END;
  TYPECASE A.x OF | B.T (E) => A.F := F ELSE N.f(LOOPHOLE(A.x, Z.T)) END
END M.`},
	} {
		u, e := generic.Apply(unitOf(t, c.generic), unitOf(t, c.instance))
		if e != api.OK || !sameUnit(u, unitOf(t, c.want)) {
			s, _ := tree.Print([]api.Unit{u})
			t.Errorf("Apply of\n%s\nand %s: error %d,\n%s", c.generic, c.instance, e, s)
		}
	}
}

// applied returns what comes of a generic interface with formals and imports, and an instance with actuals.
func applied(t *testing.T, formals, imports, actuals string) (api.Unit, api.Errno) {
	t.Helper()
	var src strings.Builder
	src.WriteString("GENERIC INTERFACE G(" + formals + ");")
	if imports != "" {
		src.WriteString(" IMPORT " + imports + ";")
	}
	for i, formal := range strings.Split(formals, ", ") {
		src.WriteString(" TYPE T" + string(rune('0'+i)) + " = " + formal + ".T;")
	}
	src.WriteString(" TYPE Z = Z.T; END G.")
	return generic.Apply(unitOf(t, src.String()), unitOf(t, "INTERFACE I = G("+actuals+") END I."))
}

// G2: the imports of the generic unit that are no formals, and the actuals, each once; all formals are replaced at once.
func TestApplyImports(t *testing.T) {
	for _, c := range []struct{ formals, imports, actuals, want, qualifiers string }{
		{"E", "", "A", "A", "A"},
		{"E", "B, C", "A", "B, C, A", "A"},
		{"E", "C, B", "A", "C, B, A", "A"},
		{"E, F", "", "B, A", "B, A", "B, A"},
		{"E, F", "", "A, A", "A", "A, A"},
		{"E, F, H, K", "N", "A, B, A, B", "N, A, B", "A, B, A, B"},
		// An actual that is the name of an import, of a formal, of another one, of the generic unit, of the instance.
		{"E", "B, A, C", "A", "B, A, C", "A"},
		{"E", "B", "E", "B, E", "E"},
		{"E, F", "N", "F, E", "N, F, E", "F, E"},
		{"E, F", "N", "F, A", "N, F, A", "F, A"},
		{"E, F", "N", "A, E", "N, A, E", "A, E"},
		{"E, F, H", "", "F, H, E", "F, H, E", "F, H, E"},
		{"E, F", "", "F, F", "F", "F, F"},
		{"E", "", "G", "G", "G"},
		{"E", "G", "I", "G, I", "I"},
		// A formal that hides an import.
		{"E", "E", "A", "A", "A"},
		{"E", "B, E, C", "A", "B, C, A", "A"},
		{"E, F", "F, B, E", "A, C", "B, A, C", "A, C"},
		{"E", "E, B", "E", "B, E", "E"},
		{"E, F", "E, B", "F, B", "B, F", "F, B"},
	} {
		u, e := applied(t, c.formals, c.imports, c.actuals)
		var qualifiers []string
		for i := range len(u.Decls) - 1 {
			qualifiers = append(qualifiers, u.Decls[i].Nodes[0].Unit)
		}
		if e != api.OK || strings.Join(u.Imports, ", ") != c.want || strings.Join(qualifiers, ", ") != c.qualifiers {
			t.Errorf("formals %s, imports %s, actuals %s: error %d, imports %q, qualifiers %q", c.formals, c.imports, c.actuals, e, u.Imports, qualifiers)
		} else if u.Decls[len(u.Decls)-1].Nodes[0].Unit != "Z" {
			t.Errorf("formals %s, imports %s, actuals %s: another qualifier is %+v", c.formals, c.imports, c.actuals, u.Decls)
		}
	}
}

// G2: 10 imports, and 11.
func TestApplyLimit(t *testing.T) {
	imports := func(n int) string { return strings.Join(manyNames(n), ", ") }
	for _, c := range []struct {
		formals, imports, actuals string
		want                      api.Errno
	}{
		{"E", imports(9), "A", api.OK},
		{"E", imports(10), "A", api.ErrLimit},
		{"E", imports(10), "Nc", api.OK},
		{"E", imports(9) + ", E", "A", api.OK},
		{"E, F", imports(9) + ", E", "A, B", api.ErrLimit},
		{"E, F", imports(8) + ", E, F", "A, B", api.OK},
		{"E, F", imports(10), "Na, Nb", api.OK},
		{"E, F", imports(10), "Na, A", api.ErrLimit},
		{"E, F, H, K", imports(6), "A, B, C, D", api.OK},
		{"E, F, H, K", imports(7), "A, B, C, D", api.ErrLimit},
		{"E, F, H, K", imports(7), "A, B, C, A", api.OK},
		{"E, F, H, K", imports(8), "A, B, C, A", api.ErrLimit},
		{"E, F, H, K", imports(10), "A, B, C, D", api.ErrLimit},
		{"E, F, H, K", imports(9), "A, A, A, A", api.OK},
	} {
		u, e := applied(t, c.formals, c.imports, c.actuals)
		if e != c.want || e == api.OK && tree.Check(u) != api.OK || e != api.OK && !sameUnit(u, api.Unit{}) {
			t.Errorf("formals %s, imports %s, actuals %s: error %d, %+v", c.formals, c.imports, c.actuals, e, u)
		}
	}
}

// G2: the Exports and the Name are those of the instance; what comes is unsafe if one of both is.
func TestApplyHeads(t *testing.T) {
	for _, c := range []struct {
		generic, instance string
		unsafe            bool
	}{
		{"GENERIC MODULE G(E); END G.", "MODULE M EXPORTS C, E, G = G(A) END M.", false},
		{"UNSAFE GENERIC MODULE G(E); END G.", "MODULE M EXPORTS C, E, G = G(A) END M.", true},
		{"GENERIC MODULE G(E); END G.", "UNSAFE MODULE M EXPORTS C, E, G = G(A) END M.", true},
		{"UNSAFE GENERIC MODULE G(E); END G.", "UNSAFE MODULE M EXPORTS C, E, G = G(A) END M.", true},
	} {
		u, e := generic.Apply(unitOf(t, c.generic), unitOf(t, c.instance))
		want := unitOf(t, "MODULE M EXPORTS C, E, G; IMPORT A; END M.")
		want.Unsafe = c.unsafe
		if e != api.OK || !sameUnit(u, want) {
			t.Errorf("Apply of %s and %s: error %d, %+v", c.generic, c.instance, e, u)
		}
	}
}

// G2: what is no unit, and what does not belong to each other.
func TestApplyFaults(t *testing.T) {
	const one, module = "GENERIC INTERFACE G(E); END G.", "GENERIC MODULE G(E); END G."
	const two = "GENERIC INTERFACE G(E, F); IMPORT N1, N2, N3, N4, N5, N6, N7, N8, N9, N10; END G."
	for _, c := range []struct {
		generic, instance string
		want              api.Errno
	}{
		{"INTERFACE G; END G.", exampleI, api.ErrInst},
		{"MODULE G; END G.", "MODULE M = G(A) END M.", api.ErrInst},
		{exampleI, exampleI, api.ErrInst},
		{one, "INTERFACE I; END I.", api.ErrInst},
		{one, one, api.ErrInst},
		{module, "MODULE M; END M.", api.ErrInst},
		{one, "MODULE M = G(A) END M.", api.ErrInst},
		{module, exampleI, api.ErrInst},
		{one, "INTERFACE I = G(A, A) END I.", api.ErrInst},
		{one, "INTERFACE I = G(A, B, C, D) END I.", api.ErrInst},
		{two, exampleI, api.ErrInst},
		{two, "INTERFACE I = G(A, B, C) END I.", api.ErrInst},
		{two, "INTERFACE I = G(A, B) END I.", api.ErrLimit},
		{two, "INTERFACE I; END I.", api.ErrInst},
	} {
		g, i := unitOf(t, c.generic), unitOf(t, c.instance)
		if u, e := generic.Apply(g, i); e != c.want || !sameUnit(u, api.Unit{}) {
			t.Errorf("Apply of %s and %s: error %d, %+v", c.generic, c.instance, e, u)
		}
		for _, units := range [][2]api.Unit{{bad(g), i}, {g, bad(i)}, {bad(g), bad(i)}, {{}, i}, {g, {}}} {
			if u, e := generic.Apply(units[0], units[1]); e != api.ErrTree || !sameUnit(u, api.Unit{}) {
				t.Errorf("Apply of %s and %s, one of them bad: error %d, %+v", c.generic, c.instance, e, u)
			}
		}
	}
}

// bad returns a unit that is not well-formed for what stands far inside of it.
func bad(u api.Unit) api.Unit {
	if u.Of != "" {
		u.Actuals = append([]string{"END"}, u.Actuals[1:]...)
		return u
	}
	u.Decls = append([]api.Decl{{Kind: api.DcExcept}}, u.Decls...)
	return u
}

// P5.6: the names of formals do not matter.
func TestApplyNames(t *testing.T) {
	g := unitOf(t, everywhere)
	i := unitOf(t, "MODULE M = G(A, B) END M.")
	want, e := generic.Apply(g, i)
	if e != api.OK {
		t.Fatalf("Apply: error %d", e)
	}
	for _, names := range [][]string{{"P", "Q"}, {"Q", "P"}, {"B", "A"}, {"A", "B"}, {"G", "M"}, {"c", "v"}, {"P", "F"}, {"E", "P"}, {"F", "E"}} {
		renamed, e := tree.Renamed(g, g.Formals, names)
		renamed.Formals = names
		u, ae := generic.Apply(renamed, i)
		if e != api.OK || ae != api.OK || !sameUnit(u, want) {
			t.Errorf("formals %q: error %d, %+v", names, ae, u)
		}
	}
}
