package generic_test

import (
	"slices"
	"testing"

	"trestle/api"
	"trestle/generic"
)

// G5: what declarations of each kind offer, in interfaces.
func TestOffers(t *testing.T) {
	for decls, want := range map[string]string{
		"":                               "",
		"TYPE T = INTEGER;":              "T:t",
		"TYPE T <: REFANY;":              "T:t",
		"EXCEPTION X;":                   "X:e",
		"PROCEDURE p(a: T): T;":          "p:p",
		"CONST c = 1;":                   "c:v",
		"VAR v: T;":                      "v:v",
		"VAR v: INTEGER := f(1);":        "v:v",
		"REVEAL T = REFANY;":             "",
		"REVEAL B.T <: REFANY;":          "",
		"TYPE T <: ROOT; REVEAL T = S;":  "T:t",
		"REVEAL T <: S; CONST T = 1;":    "T:v",
		"TYPE T = B.T; CONST c = B.d;":   "T:t c:v",
		"TYPE n = S; TYPE n <: ROOT;":    "n:t",
		"CONST n = 1; VAR n: T;":         "n:v",
		"VAR n: T; TYPE n = T;":          "n:tv",
		"EXCEPTION n; PROCEDURE n();":    "n:ep",
		"PROCEDURE n(); TYPE n <: ROOT;": "n:tp",
		"EXCEPTION n; CONST n = 1;":      "n:ev",
		"CONST n = 1; EXCEPTION n; TYPE n = T; PROCEDURE n();":                                "n:tepv",
		"TYPE b = S; VAR B: T; EXCEPTION b1; CONST a9 = 1; PROCEDURE b10(); VAR Z: S;":        "B:v Z:v a9:v b:t b1:e b10:p",
		"TYPE T = ROOT OBJECT a: S; METHODS m(b: S) := q; END; PROCEDURE p(x: T) RAISES {Y};": "T:t p:p",
		"VAR v: T; EXCEPTION X; PROCEDURE p(); TYPE T = S; CONST c = 1; TYPE O <: MUTEX;":     "O:t T:t X:e c:v p:p v:v",
	} {
		decls = "; IMPORT B; " + decls
		expectOffers(t, parse(t, "INTERFACE A"+decls+" END A."), "A", want, api.Fault{})
		// An instance offers what its generic one declares, whatever is put into that.
		expectOffers(t, parse(t, "INTERFACE A = G(Z) END A. GENERIC INTERFACE G(B)"+decls+" END G."), "A", want, api.Fault{})
		// A module is another unit, and does not matter.
		expectOffers(t, parse(t, "MODULE A; CONST z = 1; END A. INTERFACE A"+decls+" END A. MODULE B; CONST z = 1; END B."), "A", want, api.Fault{})
	}
}

// G5: an instance that is an actual, a generic one of that Name, a module's instance with its Name.
func TestOffersOfInstances(t *testing.T) {
	l := parse(t, `GENERIC INTERFACE G(E); TYPE T = E.T; CONST g = E.x; END G.
GENERIC INTERFACE H(E); IMPORT G; TYPE U = E.T; PROCEDURE h(); END H.
GENERIC MODULE G(E, F); EXCEPTION X; END G.
INTERFACE I = G(J) END I.
INTERFACE J = H(I) END J.
MODULE I = G(J, J) END I.
MODULE K = G(J, J) END K.`)
	expectOffers(t, l, "I", "T:t g:v", api.Fault{})
	expectOffers(t, l, "J", "U:t h:p", api.Fault{})
	expectOffers(t, l, "K", "", fault(api.ErrNone, 0))
	expectOffers(t, l, "G", "", fault(api.ErrActual, 0))
	expectOffers(t, l, "H", "", fault(api.ErrActual, 0))
}

// G5: interfaces that are not there, that are generic, or that are instances of which nothing comes.
func TestOffersFaults(t *testing.T) {
	l := parse(t, manyImports+exampleA+`MODULE M; CONST c = 1; END M.
GENERIC MODULE N(E); END N.
GENERIC INTERFACE G(E, F); CONST c = 1; END G.
INTERFACE I1 = Z(A) END I1.
INTERFACE I2 = N(A) END I2.
INTERFACE I3 = A(A) END I3.
INTERFACE I4 = G(A) END I4.
INTERFACE I5 = G(A, A, A) END I5.
INTERFACE I6 = I7(A) END I6.
INTERFACE I7 = G(A, A) END I7.
INTERFACE I8 = H(A) END I8.
INTERFACE I9 = H(N10) END I9.
INTERFACE I10 = I10(A) END I10.
INTERFACE I11 = H(A, A) END I11.
MODULE I12 = N(A) END I12.`)
	for name, want := range map[string]api.Errno{
		"Z": api.ErrNone, "M": api.ErrNone, "N": api.ErrNone, "a": api.ErrNone, "": api.ErrNone, "A.": api.ErrNone, "END": api.ErrNone, "I12": api.ErrNone, "N10": api.ErrNone,
		"G": api.ErrActual, "H": api.ErrActual,
		"I1": api.ErrInst, "I2": api.ErrInst, "I3": api.ErrInst, "I4": api.ErrInst, "I5": api.ErrInst, "I6": api.ErrInst, "I10": api.ErrInst, "I11": api.ErrInst,
		"I8": api.ErrLimit,
	} {
		expectOffers(t, l, name, "", fault(want, 0))
	}
	expectOffers(t, l, "A", "T:t eq:p", api.Fault{})
	expectOffers(t, l, "I7", "c:v", api.Fault{})
	expectOffers(t, l, "I9", "T:t", api.Fault{})
	expectOffers(t, nil, "A", "", fault(api.ErrNone, 0))
}

// G5: Offers is as the definition says.
func TestOffersByDefinition(t *testing.T) {
	seen := map[api.Errno]int{}
	libraries(51, 600, func(g *generator, l []api.Unit) {
		for _, name := range []string{"A", "B", "C", "G", "H", "I", "J", "K", "M", "Z"} {
			want := fault(offersFault(l, name), 0)
			var wants []api.Want
			if want.Err == api.OK {
				wants = offeredByDefinition(l, name)
			}
			got, f := generic.Offers(l, name)
			seen[f.Err]++
			if f != want || !slices.Equal(got, wants) {
				t.Fatalf("Offers(%s) of %+v: %q, %+v instead of %q, %+v", name, l, shown(got), f, shown(wants), want)
			}
		}
	})
	if seen[api.OK] < 1000 || seen[api.ErrNone] < 1000 || seen[api.ErrActual] < 1000 || seen[api.ErrInst] < 100 || seen[api.ErrLimit] < 20 {
		t.Errorf("of few sorts: %v", seen)
	}
}
