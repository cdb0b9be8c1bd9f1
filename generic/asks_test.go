package generic_test

import (
	"slices"
	"testing"

	"trestle/api"
	"trestle/generic"
)

// G4: the chapter's example.
func TestAsksExample(t *testing.T) {
	l := parse(t, exampleA+exampleG+exampleI)
	expectAsks(t, l[1], "E", "T:t")
	expectAsks(t, l[0], "E", "")
	expectAsks(t, l[2], "A", "")
}

// G4: the sort in which a name is used, in each place where it can stand in an interface.
func TestAsksOfInterfaces(t *testing.T) {
	for decls, want := range map[string]string{
		"":               "",
		"TYPE T = E.S;":  "S:t",
		"TYPE T <: E.S;": "S:t",
		"TYPE T = REF E.S; TYPE U = REF ARRAY OF E.R;":                                  "R:t S:t",
		"TYPE T = REF RECORD a: E.S; b: REF E.R; END;":                                  "R:t S:t",
		"TYPE T = BRANDED \"b\" REF ARRAY OF E.S;":                                      "S:t",
		"TYPE T = E.S OBJECT a: E.R; END;":                                              "R:t S:t",
		"TYPE T = [E.low..E.high];":                                                     "high:v low:v",
		"TYPE T = [E.f(1)..E.g(E.x) + 1];":                                              "f:p g:p x:v",
		"TYPE T = ROOT OBJECT METHODS m(a: E.A1; b: E.B1): E.R RAISES {E.X, E.Y}; END;": "A1:t B1:t R:t X:e Y:e",
		"TYPE T = ROOT OBJECT METHODS m() := E.p; n(): E.R := E.q; END;":                "R:t p:p q:p",
		"TYPE T = ROOT OBJECT METHODS m(); OVERRIDES o := E.p; q := E.m; END;":          "m:p p:p",
		"TYPE T = ROOT OBJECT METHODS m(a: [E.low..2]) := E.p; END;":                    "low:v p:p",
		"VAR v: E.T;":                      "T:t",
		"VAR v: E.T := E.v;":               "T:t v:v",
		"VAR v: INTEGER := E.f(E.g(E.x));": "f:p g:p x:v",
		"CONST c = E.c;":                   "c:v",
		"CONST c = -E.a * (E.b + 1);":      "a:v b:v",
		"EXCEPTION E;":                     "",
		"PROCEDURE p();":                   "",
		"PROCEDURE p(a: E.T; b: REF E.T): E.R RAISES {E.X, ALERTED, X};": "R:t T:t X:e",
		"REVEAL E.T <: REFANY;":              "T:t",
		"REVEAL E.T = E.S;":                  "S:t T:t",
		"REVEAL T = E.S OBJECT a: E.R; END;": "R:t S:t",
		// Names without a qualifier, with another one, and those of what is declared.
		"TYPE E = E; TYPE T = T; CONST c = E + f(E); PROCEDURE E(E: E) RAISES {E, ALERTED};": "",
		"TYPE T = F.T; CONST c = F.f(N.x); REVEAL F.T = REF N.T;":                            "",
		"REVEAL E <: T; REVEAL F.E = REF F.T;":                                               "",
		"TYPE T = F.S; TYPE U = E.R; CONST c = F.f(E.x) + E.f(F.x);":                         "R:t f:p x:v",
		// One name more than once, and in several sorts.
		"TYPE T = E.T; TYPE U = E.T; VAR v: REF E.T;":                                             "T:t",
		"TYPE T = E.n; CONST c = E.n;":                                                            "n:tv",
		"CONST c = E.n(E.n); REVEAL E.n = REF T;":                                                 "n:tpv",
		"PROCEDURE p(a: E.n): T RAISES {E.n};":                                                    "n:te",
		"TYPE T = E.n OBJECT METHODS m() RAISES {E.n} := E.n; END; CONST c = E.n + 1;":            "n:tepv",
		"CONST a = E.n(); TYPE T = ROOT OBJECT METHODS m() RAISES {E.n}; END;":                    "n:ep",
		"PROCEDURE p() RAISES {E.n}; CONST c = E.n;":                                              "n:ev",
		"TYPE T = E.b; TYPE U = E.B; TYPE V = E.b1; TYPE W = E.a9; TYPE X = E.b10; TYPE Y = E.Z;": "B:t Z:t a9:t b:t b1:t b10:t",
	} {
		expectAsks(t, unitOf(t, "GENERIC INTERFACE G(E, F); IMPORT N; "+decls+" END G."), "E", want)
	}
}

// G4: the sort in which a name is used, in each place where it can stand in the body of a module.
func TestAsksOfBodies(t *testing.T) {
	for block, want := range map[string]string{
		"":                             "",
		"E.p()":                        "p:p",
		"E.p(E.x, E.f(E.y))":           "f:p p:p x:v y:v",
		"E.a := E.b":                   "a:v b:v",
		"E.a.b := 1; E.c[E.i] := E.d^": "a:v c:v d:v i:v",
		"E.a.m(1)":                     "a:v",
		"E.f().m(E.x)":                 "f:p x:v",
		"E.f().b := 1":                 "f:p",
		"a.m(E.x); b.f()[E.i]^ := 2":   "i:v x:v",
		"VAR x: E.T := E.v":            "T:t v:v",
		"RAISE E.X":                    "X:e",
		"RAISE ALERTED":                "",
		"RAISE E":                      "",
		"TRY E.p() EXCEPT | E.X => RAISE E.Y | E.Z => RETURN ELSE E.q() END": "X:e Y:e Z:e p:p q:p",
		"TRY RETURN EXCEPT | X => RETURN E.x ELSE END":                       "x:v",
		"TRY E.p() FINALLY E.q() END":                                        "p:p q:p",
		"TYPECASE E.x OF | E.T (E) => PUT E.y | REF E.S => ELSE E.p() END":   "S:t T:t p:p x:v y:v",
		"IF E.a THEN E.p() ELSIF E.b THEN ELSE PUT E.c END":                  "a:v b:v c:v p:p",
		"WHILE E.a < E.b DO E.p() END":                                       "a:v b:v p:p",
		"LOCK E.m DO E.p() END":                                              "m:v p:p",
		"RETURN E.a":                                                         "a:v",
		"PUT E.a; JOIN E.b; SIGNAL E.c; ALL E.d; ALERT E.e; WAIT E.f, E.g":   "a:v b:v c:v d:v e:v f:v g:v",
		"PUT NEW(E.T); PUT NEW(REF ARRAY OF E.S, E.n)":                       "S:t T:t n:v",
		"PUT NARROW(E.a, E.T); PUT LOOPHOLE(E.b, E.S)":                       "S:t T:t a:v b:v",
		"PUT NUMBER(E.a); PUT FORK(E.b); PUT NOT E.c":                        "a:v b:v c:v",
		"PUT NUMBER(E.a()); PUT FORK(E.b()); PUT NOT E.c()":                  "a:p b:p c:p",
		"PUT (E.a)":                    "a:v",
		"PUT E.n; E.n()":               "n:pv",
		"RAISE E.n; VAR x: E.n := E.n": "n:tev",
		"F.p(F.x); PUT N.x; PUT M.E.x": "",
		"F.p(E.x); E.p(F.x)":           "p:p x:v",
		"PUT NEW(T OBJECT METHODS m() RAISES {E.X} := E.p; OVERRIDES m := E.q; END)": "X:e p:p q:p",
	} {
		body := unitOf(t, "GENERIC MODULE G(E, F); IMPORT N; BEGIN "+block+" END G.")
		expectAsks(t, body, "E", want)
		procedure := unitOf(t, "GENERIC MODULE G(E, F); IMPORT N; PROCEDURE p() = BEGIN "+block+" END p; END G.")
		expectAsks(t, procedure, "E", want)
	}
}

// G4: all parts of a unit are looked at, generic or not; a qualifier need be neither a formal nor an import.
func TestAsksOfUnits(t *testing.T) {
	g := unitOf(t, everywhere)
	for qualifier, want := range map[string]string{
		"E": "E:tv F:v T:t X:e c:v low:v p:p x:v",
		"F": "E:t S:t T:t X:e f:p n:v p:p v:v",
		"N": "E:e f:p high:v x:v",
		"Z": "T:t",
		"G": "", "T": "", "ALERTED": "", "e": "", "END": "", "E.": "", "thirteenBytes": "",
	} {
		expectAsks(t, g, qualifier, want)
	}
	plain := unitOf(t, "MODULE A EXPORTS B; IMPORT C; TYPE T = B.T; TYPE U = D.T; BEGIN PUT C.x END A.")
	for qualifier, want := range map[string]string{"A": "", "B": "T:t", "C": "x:v", "D": "T:t"} {
		expectAsks(t, plain, qualifier, want)
	}
	hiding := unitOf(t, "GENERIC INTERFACE G(E, H); IMPORT E; TYPE T = E.T; END G.")
	for qualifier, want := range map[string]string{"E": "T:t", "H": "", "G": ""} {
		expectAsks(t, hiding, qualifier, want)
	}
	instance := unitOf(t, "MODULE M EXPORTS B = G(A) END M.")
	for _, qualifier := range []string{"A", "B", "G", "M"} {
		expectAsks(t, instance, qualifier, "")
	}
}

// G4: what is no unit asks of nothing.
func TestAsksFaults(t *testing.T) {
	for _, u := range []api.Unit{{}, bad(unitOf(t, exampleG)), bad(unitOf(t, exampleI)), bad(unitOf(t, everywhere))} {
		for _, qualifier := range []string{"E", "A", ""} {
			if l, e := generic.Asks(u, qualifier); len(l) > 0 || e != api.ErrTree {
				t.Errorf("Asks of %+v: %q, error %d", u, shown(l), e)
			}
		}
	}
}

// G4: Asks is as the definition says.
func TestAsksByDefinition(t *testing.T) {
	libraries(41, 500, func(g *generator, l []api.Unit) {
		for _, u := range l {
			for _, qualifier := range append(slices.Clone(u.Formals), "A", "B", "C", "E", "J", "Q") {
				want := askedByDefinition(u, qualifier)
				if got, e := generic.Asks(u, qualifier); e != api.OK || !slices.Equal(got, want) {
					t.Fatalf("Asks(%+v, %s): %q, error %d, instead of %q", u, qualifier, shown(got), e, shown(want))
				}
			}
		}
	})
}

// P5.4: what comes of Apply asks of an actual what was asked of the formals in whose place it stands, and of its own name, if that was no formal; and nothing of formals that are no actuals.
func TestAsksOfActuals(t *testing.T) {
	count := 0
	libraries(42, 800, func(g *generator, l []api.Unit) {
		for _, i := range l {
			at := find(l, i.Kind, i.Of)
			if i.Of == "" || at < 0 {
				continue
			}
			u, e := generic.Apply(l[at], i)
			if e != api.OK {
				continue
			}
			for _, qualifier := range slices.Concat(i.Actuals, l[at].Formals, l[at].Imports, []string{"A", "Q"}) {
				want := map[string]api.Want{}
				for place, actual := range i.Actuals {
					if actual == qualifier {
						gather(want, askedByDefinition(l[at], l[at].Formals[place]))
					}
				}
				if !slices.Contains(l[at].Formals, qualifier) {
					gather(want, askedByDefinition(l[at], qualifier))
				}
				got, e := generic.Asks(u, qualifier)
				if e != api.OK || !slices.Equal(got, ascending(want)) {
					t.Fatalf("Asks(%s) of %+v applied to %+v: %q instead of %q", qualifier, i, l[at], shown(got), shown(ascending(want)))
				}
				count += len(got)
			}
		}
	})
	if count < 2000 {
		t.Errorf("only %d names are asked for", count)
	}
}
