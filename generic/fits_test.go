package generic_test

import (
	"math"
	"slices"
	"testing"

	"trestle/api"
	"trestle/generic"
)

// G6: the chapter's examples.
func TestFits(t *testing.T) {
	expectFits(t, parse(t, exampleA+exampleG+exampleI), 2, fit{})
	expectFits(t, parse(t, exampleI+exampleG+exampleA), 0, fit{})
	without := "INTERFACE A; PROCEDURE eq(x: T; y: T): BOOLEAN; END A.\n"
	expectFits(t, parse(t, without+exampleG+exampleI), 2, fit{"A", "T", fault(api.ErrOffer, 0)})
	expectFits(t, parse(t, exampleA+exampleG+"INTERFACE I = G(A, A) END I."), 2, fit{f: fault(api.ErrInst, 2)})
}

// inSorts are declarations of n, and uses of it, in each of the sorts.
var inSorts = []struct{ offer, ask string }{
	{"TYPE n = T;", "TYPE T = E.n;"},
	{"EXCEPTION n;", "PROCEDURE p() RAISES {E.n};"},
	{"PROCEDURE n();", "CONST c = E.n();"},
	{"VAR n: T;", "CONST d = E.n;"},
}

// G6: a name has to be offered in all sorts in which it is asked for; others do not matter.
func TestFitsInSorts(t *testing.T) {
	for offered := range 16 {
		for asked := range 16 {
			offers, asks := "", ""
			for i, sort := range inSorts {
				if offered>>i&1 == 1 {
					offers += sort.offer
				}
				if asked>>i&1 == 1 {
					asks += sort.ask
				}
			}
			want := fit{"A", "n", fault(api.ErrOffer, 0)}
			if asked&^offered == 0 {
				want = fit{}
			}
			l := parse(t, "INTERFACE A;"+offers+"END A. GENERIC INTERFACE G(E);"+asks+"END G. INTERFACE I = G(A) END I.")
			expectFits(t, l, 2, want)
		}
	}
}

// G6: all formals and actuals; the first place that does not offer all, and the least of its names.
func TestFitsInPlaces(t *testing.T) {
	const interfaces = "INTERFACE A; TYPE a = T; END A. INTERFACE B; TYPE b = T; END B. INTERFACE AB; TYPE a = T; TYPE b = T; END AB. INTERFACE C; END C.\n"
	const generics = "GENERIC INTERFACE G(E, F); TYPE T = E.a; TYPE U = F.b; END G. GENERIC MODULE G(E, F, H); TYPE T = F.b; TYPE U = F.a; TYPE V = H.b; TYPE W = E.Z; TYPE X = E.c; END G.\n"
	for instance, want := range map[string]fit{
		"INTERFACE I = G(A, B) END I.":     {},
		"INTERFACE I = G(AB, AB) END I.":   {},
		"INTERFACE I = G(B, B) END I.":     {"B", "a", fault(api.ErrOffer, 0)},
		"INTERFACE I = G(A, A) END I.":     {"A", "b", fault(api.ErrOffer, 1)},
		"INTERFACE I = G(B, A) END I.":     {"B", "a", fault(api.ErrOffer, 0)},
		"INTERFACE I = G(AB, C) END I.":    {"C", "b", fault(api.ErrOffer, 1)},
		"MODULE I = G(A, AB, B) END I.":    {"A", "Z", fault(api.ErrOffer, 0)},
		"MODULE I = G(D, AB, B) END I.":    {},
		"MODULE I = G(D, A, B) END I.":     {"A", "b", fault(api.ErrOffer, 1)},
		"MODULE I = G(D, C, C) END I.":     {"C", "a", fault(api.ErrOffer, 1)},
		"MODULE I = G(D, AB, A) END I.":    {"A", "b", fault(api.ErrOffer, 2)},
		"MODULE I = G(D, AB, D) END I.":    {"D", "b", fault(api.ErrOffer, 2)},
		"MODULE I = G(D, AB, H) END I.":    {"H", "", fault(api.ErrActual, 2)},
		"MODULE I = G(D, AB, I) END I.":    {"I", "", fault(api.ErrActual, 2)},
		"INTERFACE I = G(I, AB) END I.":    {"I", "a", fault(api.ErrOffer, 0)},
		"INTERFACE I = G(A, B, AB) END I.": {f: fault(api.ErrInst, 7)},
		"MODULE I = G(D, AB) END I.":       {f: fault(api.ErrInst, 7)},
	} {
		l := parse(t, interfaces+generics+"INTERFACE D; TYPE Z = T; TYPE c = T; END D."+instance)
		expectFits(t, l, 7, want)
	}
	// The least name is that of which one sort is lacking, not one that is offered, and not the first one that is used.
	expectFits(t, parse(t, "INTERFACE A; TYPE a = T; TYPE b = T; CONST d = 1; END A. GENERIC INTERFACE G(E); TYPE T = E.d; CONST x = E.d + E.c + E.b; TYPE U = E.a; TYPE V = E.b; END G. INTERFACE I = G(A) END I."),
		2, fit{"A", "b", fault(api.ErrOffer, 0)})
	expectFits(t, parse(t, "INTERFACE A; TYPE b = T; END A. GENERIC INTERFACE G(E); TYPE T = E.b10; TYPE U = E.b1; TYPE V = E.c; TYPE W = E.b; END G. INTERFACE I = G(A) END I."),
		2, fit{"A", "b1", fault(api.ErrOffer, 0)})
}

// G6: what is asked of an actual is what is asked of the formals in whose places it stands, and not what is asked of its name elsewhere.
func TestFitsOtherNames(t *testing.T) {
	for _, g := range []string{
		"GENERIC INTERFACE G(E); IMPORT A; TYPE T = E.T; TYPE U = A.U; END G.\n",
		"GENERIC INTERFACE G(E); IMPORT N; TYPE T = N.U; TYPE E = E; REVEAL V = W; END G.\n",
		"GENERIC INTERFACE G(E); IMPORT E; TYPE T = E.T; END G.\n",
		"GENERIC INTERFACE G(E); END G.\n",
		"GENERIC INTERFACE G(A); TYPE T = A.T; END G.\n",
		"GENERIC INTERFACE G(I); TYPE T = I.T; END G.\n",
	} {
		expectFits(t, parse(t, exampleA+g+exampleI), 2, fit{})
	}
	// Formals that have the names of interfaces with more, or with less.
	const crossed = "INTERFACE A; TYPE a = T; END A. INTERFACE B; TYPE b = T; END B. GENERIC INTERFACE G(B, A); TYPE T = A.b; TYPE U = B.a; END G.\n"
	expectFits(t, parse(t, crossed+"INTERFACE I = G(A, B) END I."), 3, fit{})
	expectFits(t, parse(t, crossed+"INTERFACE I = G(B, A) END I."), 3, fit{"B", "a", fault(api.ErrOffer, 0)})
	// Nobody offers what a revelation names, or what a module declares.
	const revealing = "INTERFACE A; REVEAL T = S; END A. MODULE A; TYPE T = INTEGER; END A.\n"
	expectFits(t, parse(t, revealing+exampleG+exampleI), 3, fit{"A", "T", fault(api.ErrOffer, 0)})
}

// G6: actuals that are instances, that are generic, that are not there, or that are modules alone.
func TestFitsActuals(t *testing.T) {
	const units = manyImports + exampleA + exampleG + `GENERIC MODULE G(E); TYPE T = E.T; END G.
GENERIC INTERFACE L(E); END L.
MODULE M; TYPE T = INTEGER; END M.
INTERFACE I0 = H(N10) END I0.
INTERFACE I1 = Z(A) END I1.
INTERFACE I2 = M(A) END I2.
INTERFACE I3 = A(A) END I3.
INTERFACE I4 = G(A, A) END I4.
INTERFACE I5 = I0(A) END I5.
INTERFACE I6 = H(A) END I6.
INTERFACE I7 = H(I6) END I7.
INTERFACE I8 = L(A) END I8.
MODULE I9 = G(A) END I9.
`
	for actual, want := range map[string]fit{
		"A": {}, "I0": {},
		"I8": {"I8", "T", fault(api.ErrOffer, 0)},
		"Z":  {"Z", "", fault(api.ErrActual, 0)}, "M": {"M", "", fault(api.ErrActual, 0)}, "I9": {"I9", "", fault(api.ErrActual, 0)},
		"G": {"G", "", fault(api.ErrActual, 0)}, "H": {"H", "", fault(api.ErrActual, 0)}, "E": {"E", "", fault(api.ErrActual, 0)},
		"I1": {"I1", "", fault(api.ErrActual, 0)}, "I2": {"I2", "", fault(api.ErrActual, 0)}, "I3": {"I3", "", fault(api.ErrActual, 0)},
		"I4": {"I4", "", fault(api.ErrActual, 0)}, "I5": {"I5", "", fault(api.ErrActual, 0)},
		"I6": {"I6", "", fault(api.ErrLimit, 0)}, "I7": {"I7", "", fault(api.ErrLimit, 0)},
	} {
		expectFits(t, parse(t, units+"INTERFACE I = G("+actual+") END I."), 16, want)
		expectFits(t, parse(t, units+"MODULE I = G("+actual+") END I."), 16, want)
		// A formal of which nothing is asked needs an actual, too.
		if want.f.Err == api.ErrOffer {
			want = fit{}
		}
		expectFits(t, parse(t, units+"INTERFACE I = L("+actual+") END I."), 16, want)
	}
}

// G6: what comes first: the instance itself, then all actuals, and then what they offer.
func TestFitsOrder(t *testing.T) {
	const units = manyImports + exampleA + "GENERIC INTERFACE G(E, F); TYPE T = E.x; TYPE U = F.y; END G. INTERFACE J = H(A) END J.\n"
	for instance, want := range map[string]fit{
		"INTERFACE I = G(A, A) END I.":    {"A", "x", fault(api.ErrOffer, 0)},
		"INTERFACE I = G(A, Z) END I.":    {"Z", "", fault(api.ErrActual, 1)},
		"INTERFACE I = G(A, J) END I.":    {"J", "", fault(api.ErrLimit, 1)},
		"INTERFACE I = G(Z, A) END I.":    {"Z", "", fault(api.ErrActual, 0)},
		"INTERFACE I = G(Z, H) END I.":    {"Z", "", fault(api.ErrActual, 0)},
		"INTERFACE I = G(H, Z) END I.":    {"H", "", fault(api.ErrActual, 0)},
		"INTERFACE I = G(Z, J) END I.":    {"Z", "", fault(api.ErrActual, 0)},
		"INTERFACE I = G(J, J) END I.":    {"J", "", fault(api.ErrLimit, 0)},
		"INTERFACE I = G(J, A) END I.":    {"J", "", fault(api.ErrLimit, 0)},
		"INTERFACE I = G(Z, A, A) END I.": {f: fault(api.ErrInst, 4)},
		"INTERFACE I = G(J) END I.":       {f: fault(api.ErrInst, 4)},
		"MODULE I = G(Z, A) END I.":       {f: fault(api.ErrInst, 4)},
	} {
		expectFits(t, parse(t, units+instance), 4, want)
	}
}

// G6: indices of no instances.
func TestFitsArguments(t *testing.T) {
	l := parse(t, exampleA+exampleG+exampleI+"MODULE M; END M.")
	for _, i := range []int{-1, 0, 1, 3, 4, math.MinInt, math.MaxInt} {
		expectFits(t, l, i, fit{f: fault(api.ErrArg, 0)})
	}
	expectFits(t, l, 2, fit{})
	expectFits(t, nil, 0, fit{f: fault(api.ErrArg, 0)})
	expectFits(t, nil, -1, fit{f: fault(api.ErrArg, 0)})
}

// G6: Fits is as the definition says.
func TestFitsByDefinition(t *testing.T) {
	seen := map[api.Errno]int{}
	libraries(61, 1000, func(g *generator, l []api.Unit) {
		for i := -1; i <= len(l); i++ {
			want := fitsByDefinition(l, i)
			seen[want.f.Err]++
			if got := fits(l, i); got != want {
				t.Fatalf("Fits(%d) of %+v: %+v instead of %+v", i, l, got, want)
			}
		}
	})
	if seen[api.OK] < 500 || seen[api.ErrInst] < 100 || seen[api.ErrActual] < 500 || seen[api.ErrLimit] < 10 || seen[api.ErrOffer] < 200 {
		t.Errorf("of few sorts: %v", seen)
	}
}

// P5.5: what an instance that fits asks of its actuals is declared there in the expanded library.
func TestFitsIsDeclared(t *testing.T) {
	count := 0
	libraries(62, 1000, func(g *generator, l []api.Unit) {
		plain, f := generic.Expand(l)
		if f.Err != api.OK {
			return
		}
		for i, u := range l {
			if u.Of == "" || fits(l, i) != (fit{}) {
				continue
			}
			origin := l[find(l, u.Kind, u.Of)]
			for place, actual := range u.Actuals {
				declared := map[string]api.Want{}
				gather(declared, offeredByDefinition(plain, actual))
				before := ascending(declared)
				asked, _ := generic.Asks(origin, origin.Formals[place])
				gather(declared, asked)
				if !slices.Equal(ascending(declared), before) {
					t.Fatalf("%s fits, but %s does not have all of %q", u.Name, actual, shown(asked))
				}
				count += len(asked)
			}
		}
	})
	if count < 500 {
		t.Errorf("only %d names are asked for", count)
	}
}
