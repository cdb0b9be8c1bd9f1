package generic_test

import (
	"slices"
	"strings"
	"testing"

	"trestle/api"
	"trestle/generic"
	"trestle/tree"
)

// G3: generic units are left out, instances replaced, and all others stay, in their order.
func TestExpand(t *testing.T) {
	const expandedI = "INTERFACE I; IMPORT A; TYPE S = REF ARRAY OF A.T; PROCEDURE has(s: S; x: A.T): BOOLEAN; END I.\n"
	const both = "GENERIC INTERFACE G(E); TYPE T = E.T; END G. GENERIC MODULE G(E, F); TYPE U = F.T; BEGIN PUT E.x END G.\n"
	expectExpand(t, "", "", api.Fault{})
	expectExpand(t, exampleA+exampleG+exampleI, exampleA+expandedI, api.Fault{})
	expectExpand(t, exampleI+exampleG+exampleA, expandedI+exampleA, api.Fault{})
	expectExpand(t, exampleG, "", api.Fault{})
	expectExpand(t, exampleG+"GENERIC MODULE G(E); END G.", "", api.Fault{})
	expectExpand(t, exampleA+"MODULE A; END A.", exampleA+"MODULE A; END A.", api.Fault{})
	// What actuals are does not matter here.
	expectExpand(t, exampleG+exampleI, expandedI, api.Fault{})
	expectExpand(t, exampleG+exampleI+"GENERIC INTERFACE A(E); END A.", expandedI, api.Fault{})
	// An interface and a module of one Name.
	expectExpand(t, both+"INTERFACE I = G(A) END I. MODULE I = G(B, A) END I.",
		"INTERFACE I; IMPORT A; TYPE T = A.T; END I. MODULE I; IMPORT B, A; TYPE U = A.T; BEGIN PUT B.x END I.", api.Fault{})
	expectExpand(t, both+"MODULE G2 = G(B, A) END G2. INTERFACE G2 = G(A) END G2.",
		"MODULE G2; IMPORT B, A; TYPE U = A.T; BEGIN PUT B.x END G2. INTERFACE G2; IMPORT A; TYPE T = A.T; END G2.", api.Fault{})
	// An actual that is an instance, or the instance itself.
	expectExpand(t, both+"INTERFACE I = G(J) END I. INTERFACE J = G(I) END J. INTERFACE K = G(K) END K.",
		"INTERFACE I; IMPORT J; TYPE T = J.T; END I. INTERFACE J; IMPORT I; TYPE T = I.T; END J. INTERFACE K; IMPORT K; TYPE T = K.T; END K.", api.Fault{})
}

// G3: instances that are not right.
func TestExpandFaults(t *testing.T) {
	for src, want := range map[string]api.Fault{
		exampleA + exampleG + "INTERFACE I = G(A, A) END I.": fault(api.ErrInst, 2),
		exampleI: fault(api.ErrInst, 0),
		exampleA + exampleI + "GENERIC MODULE G(E); END G.":                            fault(api.ErrInst, 1),
		exampleA + "MODULE M = G(A) END M." + exampleG:                                 fault(api.ErrInst, 1),
		exampleI + "INTERFACE G; END G.":                                               fault(api.ErrInst, 0),
		exampleG + exampleI + "INTERFACE J = I(A) END J.":                              fault(api.ErrInst, 2),
		"INTERFACE I = I(A) END I.":                                                    fault(api.ErrInst, 0),
		exampleI + "GENERIC INTERFACE G(E, F); END G.":                                 fault(api.ErrInst, 0),
		exampleG + "INTERFACE J = G(A, B, C, D) END J. INTERFACE I = H(A) END I.":      fault(api.ErrInst, 1),
		exampleG + exampleI + "INTERFACE J = H(A) END J. INTERFACE K = G(A, B) END K.": fault(api.ErrInst, 2),
		exampleG + "INTERFACE I = g(A) END I.":                                         fault(api.ErrInst, 1),
		manyImports + "INTERFACE I = H(N10) END I. INTERFACE J = H(A) END J.":          fault(api.ErrLimit, 2),
		"INTERFACE J = H(A) END J." + manyImports + "INTERFACE I = H(N10) END I.":      fault(api.ErrLimit, 0),
		manyImports + "INTERFACE I = G(A) END I. INTERFACE J = H(A) END J.":            fault(api.ErrInst, 1),
	} {
		expectExpand(t, src, "", want)
	}
}

// manyImports is a generic interface to whose imports none can be added.
const manyImports = "GENERIC INTERFACE H(E); IMPORT N1, N2, N3, N4, N5, N6, N7, N8, N9, N10; TYPE T = E.T; END H.\n"

// G3: 30 units, all but one of which are instances.
func TestExpandMany(t *testing.T) {
	src, want := exampleG, ""
	for i := range 29 {
		name := "I" + strings.Repeat("x", i%10) + "abc"[i/10:i/10+1]
		src += "INTERFACE " + name + " = G(A) END " + name + ".\n"
		want += "INTERFACE " + name + "; IMPORT A; TYPE S = REF ARRAY OF A.T; PROCEDURE has(s: S; x: A.T): BOOLEAN; END " + name + ".\n"
	}
	expectExpand(t, src, want, api.Fault{})
}

// P5.2: what comes is plain, a library, and stays as it is.
func TestExpandIsPlain(t *testing.T) {
	libraries(21, 600, func(g *generator, l []api.Unit) {
		plain, f := generic.Expand(l)
		if f.Err != api.OK {
			return
		}
		for _, u := range plain {
			if u.Generic || len(u.Formals) > 0 || u.Of != "" || len(u.Actuals) > 0 {
				t.Fatalf("Expand has %+v", u)
			}
		}
		if f := generic.Check(plain); f != (api.Fault{}) {
			t.Fatalf("Check of Expand: %+v, %+v", f, plain)
		}
		if again, f := generic.Expand(plain); f != (api.Fault{}) || !sameUnits(again, plain) {
			t.Fatalf("Expand of Expand: %+v, %+v instead of %+v", f, again, plain)
		}
	})
}

// P5.3: Expand is Apply for each instance.
func TestExpandOneByOne(t *testing.T) {
	libraries(31, 600, func(g *generator, l []api.Unit) {
		plain, f := generic.Expand(l)
		if f.Err != api.OK {
			return
		}
		at := 0
		for _, u := range l {
			if u.Generic {
				continue
			}
			if u.Of != "" {
				var e api.Errno
				u, e = generic.Apply(l[find(l, u.Kind, u.Of)], u)
				if e != api.OK {
					t.Fatalf("Apply for %s: error %d", u.Name, e)
				}
			}
			if at == len(plain) || !sameUnit(plain[at], u) {
				t.Fatalf("Expand has %+v, not %+v at %d", plain, u, at)
			}
			at++
		}
		if at != len(plain) {
			t.Fatalf("Expand has %d units instead of %d", len(plain), at)
		}
	})
}

// P5.3: the order of the units does not matter but for theirs, nor do generic units that no instance names.
func TestExpandInAnyOrder(t *testing.T) {
	libraries(32, 600, func(g *generator, l []api.Unit) {
		plain, f := generic.Expand(l)
		var other []api.Unit
		for _, i := range g.Perm(len(l)) {
			if !l[i].Generic || isNamed(l, l[i]) {
				other = append(other, l[i])
			}
		}
		got, otherFault := generic.Expand(other)
		if (f.Err == api.OK) != (otherFault.Err == api.OK) || len(got) != len(plain) {
			t.Fatalf("Expand in another order: %+v, %+v instead of %+v, %+v", otherFault, got, f, plain)
		}
		at := 0
		for _, u := range other {
			if f.Err == api.OK && !u.Generic {
				if !sameUnit(got[at], plain[find(plain, u.Kind, u.Name)]) {
					t.Fatalf("in another order %s is %+v", u.Name, got[at])
				}
				at++
			}
		}
	})
}

// isNamed reports whether an instance names a generic unit.
func isNamed(l []api.Unit, g api.Unit) bool {
	for _, u := range l {
		if u.Kind == g.Kind && u.Of == g.Name {
			return true
		}
	}
	return false
}

// T1: what is expanded is printed, and read, as it is; so is what it was made of.
func TestExpandedTexts(t *testing.T) {
	count := 0
	libraries(34, 600, func(g *generator, l []api.Unit) {
		plain, f := generic.Expand(l)
		src, e := tree.Print(l)
		if f.Err != api.OK || e != api.OK || len(src) > api.MaxSource || !areKnown(l) {
			return
		}
		count++
		text, _ := tree.Print(plain)
		if !sameUnits(parse(t, text), plain) {
			t.Fatalf("Expand is read in another way than it is printed:\n%s", text)
		}
		if again, f := generic.Expand(parse(t, src)); f != (api.Fault{}) || !sameUnits(again, plain) {
			t.Fatalf("Expand of a text: %+v, %+v instead of %+v, of\n%s", f, again, plain, src)
		}
	})
	if count < 50 {
		t.Errorf("only %d texts are read", count)
	}
}

// areKnown reports whether all qualifiers of units are imports, exports or formals, so that they are read as qualifiers.
func areKnown(l []api.Unit) bool {
	for _, u := range l {
		qualifiers, _ := tree.Qualifiers(u)
		for _, name := range qualifiers {
			if !slices.Contains(slices.Concat(u.Imports, u.Exports, u.Formals), name) {
				return false
			}
		}
	}
	return true
}

// G3: Expand is as the definition says.
func TestExpandByDefinition(t *testing.T) {
	seen := map[api.Errno]int{}
	libraries(33, 1200, func(g *generator, l []api.Unit) {
		want, wantFaults := expandedByDefinition(l)
		got, f := generic.Expand(l)
		seen[f.Err]++
		if !slices.Contains(wantFaults, f) || !sameUnits(got, want) {
			t.Fatalf("Expand of %+v: %+v, %+v instead of %+v, %+v", l, got, f, want, wantFaults)
		}
	})
	if seen[api.OK] < 500 || seen[api.ErrInst] < 300 || seen[api.ErrLimit] < 50 {
		t.Errorf("of few sorts: %v", seen)
	}
}
