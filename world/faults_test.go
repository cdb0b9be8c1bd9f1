package world_test

import (
	"slices"
	"strconv"
	"strings"
	"testing"

	"trestle/api"
	"trestle/generic"
)

// Number 1: the faults of generic.Check, with an index, and then units that are not plain, with a place.
func TestPlain(t *testing.T) {
	const g, i = "GENERIC INTERFACE G(E); END G. ", "INTERFACE I = G(A) END I. "
	faults(t, map[string]api.Fault{
		g:                             fault(api.ErrPlain, 0),
		"INTERFACE A; END A." + g:     fault(api.ErrPlain, 100),
		"INTERFACE A; END A." + i + g: fault(api.ErrPlain, 100),
		"GENERIC MODULE G(E); END G.": fault(api.ErrPlain, 0),
		"MODULE A; END A. MODULE M = G(A) END M. " + g:             fault(api.ErrPlain, 100),
		"INTERFACE A; END A. MODULE A; END A. INTERFACE A; END A.": fault(api.ErrTwice, 2),
		g + "MODULE M; END M. MODULE M; END M.":                    fault(api.ErrTwice, 2),
		"MODULE M; IMPORT X; END M. " + g:                          fault(api.ErrPlain, 100),
	})
	bad := parse(t, "MODULE M; END M. MODULE N; END N. MODULE M; END M.")
	bad[1].Name = "END"
	expectFault(t, bad, fault(api.ErrTree, 1))
	expectFault(t, append(parse(t, g), bad...), fault(api.ErrTree, 2))
	var many []api.Unit
	for i := range 31 {
		name := "M" + strconv.Itoa(i)
		many = append(many, parse(t, "MODULE "+name+"; END "+name+".")...)
	}
	expectFault(t, many, fault(api.ErrLimit, 0))
	if w := worldOf(t, many[:30]); len(w.Units) != 30 || len(w.Order) != 30 {
		t.Errorf("of 30 units there are %d", len(w.Units))
	}
}

// Number 1: whatever generic.Check refuses is refused, with the same fault; what comes of expanding is plain.
func TestExpanded(t *testing.T) {
	const src = "INTERFACE A; TYPE T = INTEGER; END A. GENERIC INTERFACE G(E); TYPE S = REF E.T; END G. INTERFACE I = G(A) END I."
	expectFault(t, parse(t, src), fault(api.ErrPlain, 100))
	plain, _ := generic.Expand(parse(t, src))
	expect(t, "the types", worldOf(t, plain).Types, []api.Part{{Name: "A.T", Type: 0}, {Name: "I.S", Type: 1}})
}

// Number 2: imports and exports that are no interfaces.
func TestUnits(t *testing.T) {
	faults(t, map[string]api.Fault{
		"MODULE M; IMPORT A; END M.":                                                fault(api.ErrUnit, 0),
		"MODULE M EXPORTS A; END M.":                                                fault(api.ErrUnit, 0),
		"INTERFACE I; IMPORT A; END I.":                                             fault(api.ErrUnit, 0),
		"MODULE A; END A. MODULE M; IMPORT A; END M.":                               fault(api.ErrUnit, 100),
		"MODULE A; END A. MODULE M EXPORTS A; END M.":                               fault(api.ErrUnit, 100),
		"INTERFACE A; END A. MODULE M; IMPORT A, B; END M.":                         fault(api.ErrUnit, 100),
		"INTERFACE A; END A. MODULE M EXPORTS A, a; END M.":                         fault(api.ErrUnit, 100),
		"MODULE M; IMPORT M; END M.":                                                fault(api.ErrUnit, 0),
		"MODULE M EXPORTS M; END M.":                                                fault(api.ErrUnit, 0),
		"MODULE N; END N. MODULE M; IMPORT A; END M. INTERFACE I; IMPORT B; END I.": fault(api.ErrUnit, 100),
	})
	build(t, "MODULE M; IMPORT A; END M. INTERFACE A; END A.")
	build(t, "MODULE M EXPORTS A, B; IMPORT B, A; END M. INTERFACE A; END A. INTERFACE B; END B.")
}

// Number 2: safe units that have to do with unsafe interfaces. All units are looked at for ErrUnit first.
func TestSafe(t *testing.T) {
	const a = "UNSAFE INTERFACE A; END A. "
	faults(t, map[string]api.Fault{
		a + "MODULE M; IMPORT A; END M.":                                                   fault(api.ErrSafe, 100),
		a + "MODULE M EXPORTS A; END M.":                                                   fault(api.ErrSafe, 100),
		a + "INTERFACE B; IMPORT A; END B.":                                                fault(api.ErrSafe, 100),
		a + "MODULE A; END A.":                                                             fault(api.ErrSafe, 100),
		"MODULE A; END A. " + a:                                                            fault(api.ErrSafe, 0),
		a + "INTERFACE B; END B. MODULE M EXPORTS B; IMPORT B, A; END M.":                  fault(api.ErrSafe, 200),
		a + "UNSAFE MODULE N; IMPORT A; END N. MODULE M; IMPORT A; END M.":                 fault(api.ErrSafe, 200),
		a + "MODULE M; IMPORT A; END M. MODULE N; IMPORT B; END N.":                        fault(api.ErrUnit, 200),
		a + "MODULE M; IMPORT A, B; END M.":                                                fault(api.ErrUnit, 100),
		a + "UNSAFE INTERFACE B; IMPORT A; END B. INTERFACE C; IMPORT B; END C.":           fault(api.ErrSafe, 200),
		a + "MODULE B EXPORTS C; IMPORT C; END B. INTERFACE C; IMPORT A; END C.":           fault(api.ErrSafe, 200),
		a + "INTERFACE B; IMPORT C; END B. INTERFACE C; IMPORT B; END C. MODULE A; END A.": fault(api.ErrSafe, 300),
	})
	build(t, a+"UNSAFE MODULE A; END A. UNSAFE MODULE M; IMPORT A; END M. MODULE N; END N.")
	build(t, "INTERFACE A; END A. UNSAFE INTERFACE B; IMPORT A; END B. UNSAFE MODULE A; IMPORT B; END A. MODULE M; IMPORT A; END M.")
}

// Number 3: interfaces that come to themselves. Those that only lead to such ones, and modules, do not.
func TestCircles(t *testing.T) {
	const b, c = "INTERFACE B; IMPORT C; END B. ", "INTERFACE C; IMPORT B; END C. "
	faults(t, map[string]api.Fault{
		b + c: fault(api.ErrCycle, 0),
		exampleA + exampleBody + exampleMain + b + c:                                                  fault(api.ErrCycle, 300),
		"INTERFACE A; IMPORT A; END A.":                                                               fault(api.ErrCycle, 0),
		"INTERFACE D; IMPORT B; END D. " + c + b:                                                      fault(api.ErrCycle, 100),
		"INTERFACE D; END D. MODULE M; IMPORT B; END M. INTERFACE A; IMPORT C, D, A; END A. " + c + b: fault(api.ErrCycle, 200),
		"INTERFACE A; IMPORT B; END A. INTERFACE B; IMPORT C; END B. INTERFACE C; IMPORT D; END C. INTERFACE D; IMPORT B; END D.": fault(api.ErrCycle, 100),
		b + "INTERFACE C; IMPORT D; END C. INTERFACE D; IMPORT C; END D. ":                                                        fault(api.ErrCycle, 100),
		"MODULE M; VAR x: INTEGER; VAR x: INTEGER; END M. " + b + c:                                                               fault(api.ErrCycle, 100),
	})
	build(t, "INTERFACE A; END A. INTERFACE B; IMPORT A; END B. INTERFACE C; IMPORT A, B; END C. INTERFACE D; IMPORT A, B, C; END D.")
	build(t, "INTERFACE A; END A. INTERFACE B; END B. MODULE A; IMPORT A, B; END A. MODULE B; IMPORT A, B; END B.")
}

// Number 4: names that are declared twice.
func TestTwice(t *testing.T) {
	const a, b = "INTERFACE A; VAR x: INTEGER; END A. ", "INTERFACE B; VAR x: INTEGER; END B. "
	const p, q = "INTERFACE P; PROCEDURE p(); END P. ", "INTERFACE Q; PROCEDURE p(); END Q. "
	const body = "PROCEDURE p() = BEGIN END p; "
	faults(t, map[string]api.Fault{
		// In one unit.
		"MODULE M; VAR x: INTEGER; EXCEPTION x; END M.":                                     fault(api.ErrTwice, 2),
		"MODULE M; CONST y = 1; VAR x: INTEGER; TYPE z = INTEGER; TYPE x = BOOLEAN; END M.": fault(api.ErrTwice, 4),
		"INTERFACE I; TYPE T <: ROOT; TYPE T <: ROOT; END I.":                               fault(api.ErrTwice, 2),
		"MODULE M; " + body + body + "END M.":                                               fault(api.ErrTwice, 2),
		"INTERFACE I; PROCEDURE p(); PROCEDURE p(); END I. MODULE I; " + body + "END I.":    fault(api.ErrTwice, 2),
		"MODULE M; CONST x = 1; VAR x: INTEGER; CONST x = 2; END M.":                        fault(api.ErrTwice, 2),
		"MODULE N; END N. MODULE M; EXCEPTION x; EXCEPTION x; END M.":                       fault(api.ErrTwice, 102),
		"MODULE M; VAR x: INTEGER; CONST x = nothing; END M.":                               fault(api.ErrTwice, 2),
		// By an interface that is exported, behind it or ahead of it.
		a + "MODULE A; TYPE y = INTEGER; CONST x = 1; END A.":               fault(api.ErrTwice, 102),
		a + "MODULE M EXPORTS A; VAR x: INTEGER; END M.":                    fault(api.ErrTwice, 101),
		"MODULE M EXPORTS A; VAR x: INTEGER; END M. " + a:                   fault(api.ErrTwice, 1),
		a + p + "MODULE M EXPORTS P, A; " + body + "VAR x: INTEGER; END M.": fault(api.ErrTwice, 202),
		p + "MODULE P; VAR p: INTEGER; END P.":                              fault(api.ErrTwice, 101),
		a + "MODULE A; PROCEDURE x() = BEGIN END x; END A.":                 fault(api.ErrTwice, 101),
		p + "MODULE P; " + body + body + "END P.":                           fault(api.ErrTwice, 102),
		// By two interfaces that are exported, procedures too.
		a + b + "MODULE M EXPORTS A, B; END M.":                                        fault(api.ErrTwice, 200),
		a + b + "MODULE M EXPORTS B, A; VAR x: INTEGER; END M.":                        fault(api.ErrTwice, 200),
		p + q + "MODULE M EXPORTS P, Q; " + body + "END M.":                            fault(api.ErrTwice, 200),
		a + b + "MODULE M EXPORTS P, A, Q2, B; END M. " + p + "INTERFACE Q2; END Q2. ": fault(api.ErrTwice, 200),
		// A module beside an interface with its Name.
		a + "INTERFACE C; END C. MODULE A EXPORTS C; END A.":                                                       fault(api.ErrTwice, 200),
		"MODULE A EXPORTS C; VAR z: INTEGER; VAR z: INTEGER; END A. " + a + "INTERFACE C; END C.":                  fault(api.ErrTwice, 0),
		"MODULE M; VAR x: INTEGER; VAR x: INTEGER; END M. MODULE A EXPORTS C; END A. " + a + "INTERFACE C; END C.": fault(api.ErrTwice, 2),
		a + "INTERFACE C; VAR z: INTEGER; VAR z: INTEGER; END C. MODULE A EXPORTS C; END A.":                       fault(api.ErrTwice, 102),
	})
}

// Number 4: what may have the same name.
func TestNotTwice(t *testing.T) {
	const a, b = "INTERFACE A; VAR x: INTEGER; END A. ", "INTERFACE B; VAR x: INTEGER; END B. "
	build(t, a+b+"MODULE M; IMPORT A, B; VAR x: INTEGER; END M. MODULE N; VAR x: INTEGER; END N.")
	build(t, a+"INTERFACE C; IMPORT A; VAR x: INTEGER; END C. MODULE A; VAR X: INTEGER; END A.")
	build(t, a+"INTERFACE C; END C. MODULE A EXPORTS C, A; END A.")
	build(t, a+b+"MODULE M EXPORTS A; END M. MODULE N EXPORTS B; IMPORT A; END N. MODULE A; END A.")
	// A DcReveal declares no name: neither is it twice, nor does it make something else be twice.
	const o = "INTERFACE O; TYPE T <: ROOT; TYPE U <: ROOT; END O. "
	const brand = " ROOT BRANDED \"b\" OBJECT END; "
	build(t, o+"MODULE O; REVEAL O.T ="+brand+"REVEAL O.T <: ROOT; REVEAL T <: ROOT; REVEAL T <: ROOT; END O.")
	build(t, o+"MODULE M; IMPORT O; REVEAL O.T ="+brand+"VAR T: O.T; REVEAL O.T <: ROOT; END M.")
	build(t, "INTERFACE O; REVEAL T <: ROOT; TYPE T <: ROOT; REVEAL T <: ROOT; END O. MODULE M EXPORTS O; END M.")
}

// Number 5: constants.
func TestConstantFaults(t *testing.T) {
	const a = "INTERFACE A; CONST N = 1; TYPE T = INTEGER; VAR v: INTEGER; EXCEPTION E; PROCEDURE p(); END A. MODULE A; PROCEDURE p() = BEGIN END p; END A. "
	table := map[string]api.Fault{}
	for x, e := range map[string]api.Errno{
		// Names that mean no constant: nothing, something else, or what is not seen here.
		"x": api.ErrName, "A.x": api.ErrName, "A.T": api.ErrName, "A.v": api.ErrName, "A.E": api.ErrName, "A.p": api.ErrName, "N": api.ErrName, "B.N": api.ErrName,
		"M.Z": api.ErrName, "1 + -x": api.ErrName, "TRUE + x": api.ErrName, "A.p(1)": api.ErrName, "Z = x": api.ErrName, "FALSE AND x": api.ErrName,
		"C + x": api.ErrName, "x + D": api.ErrName, "v.f": api.ErrName, "A.v^": api.ErrName, "1 DIV 0 + x": api.ErrName, "q": api.ErrName,
		// Circles.
		"C": api.ErrCycle, "C + 1": api.ErrCycle, "TRUE OR C": api.ErrCycle, "D": api.ErrCycle, "NOT (1 = D)": api.ErrCycle, "1 DIV 0 + C": api.ErrCycle, "D + TRUE": api.ErrCycle,
		// What has no value.
		"NIL": api.ErrConst, "TRUE + 1": api.ErrConst, "1 DIV 0": api.ErrConst, "NEW(INTEGER)": api.ErrConst, "A.N.f": api.ErrConst, "A.N(1)": api.ErrConst, "A.N^": api.ErrConst, "A.N [1]": api.ErrConst,
		"NUMBER(1)": api.ErrConst, "FORK(1)": api.ErrConst, "NIL = NIL": api.ErrConst, "FALSE AND 1 DIV 0 = 1": api.ErrConst, "NARROW(A.N, INTEGER)": api.ErrConst, "LOOPHOLE(1, INTEGER)": api.ErrConst,
	} {
		table[a+"MODULE M; IMPORT A; CONST C = "+x+"; CONST D = C; CONST Z = 2; PROCEDURE q() = BEGIN END q; END M."] = fault(e, 201)
	}
	faults(t, table)
	faults(t, map[string]api.Fault{
		"MODULE M; CONST X = Y; CONST Y = X + 1; CONST Z = X; END M.": fault(api.ErrCycle, 1),
		// Who names a constant with a fault has no value.
		"MODULE M; CONST Z = X; CONST X = Y; CONST Y = X + 1; END M.":                             fault(api.ErrConst, 1),
		"MODULE M; CONST Z = X; CONST X = zz; END M.":                                             fault(api.ErrConst, 1),
		"MODULE M; CONST Z = X = X; CONST X = NIL; END M.":                                        fault(api.ErrConst, 1),
		"MODULE M; CONST W = V; CONST V = X; CONST X = NIL; END M.":                               fault(api.ErrConst, 1),
		"MODULE M; CONST Z = X + zz; CONST X = NIL; END M.":                                       fault(api.ErrName, 1),
		"MODULE M; CONST X = NIL; CONST Y = zz; CONST Z = Z; END M.":                              fault(api.ErrConst, 1),
		"MODULE M; CONST Z = Z; CONST X = NIL; CONST Y = zz; END M.":                              fault(api.ErrCycle, 1),
		"MODULE M; CONST X = 1; CONST Y = zz; CONST Z = Z; END M.":                                fault(api.ErrName, 2),
		"INTERFACE A; CONST X = Y; CONST Y = 1; END A. MODULE A; CONST Z = X DIV (Y - X); END A.": fault(api.ErrConst, 101),
		"MODULE M; IMPORT A; CONST Z = A.X; END M. INTERFACE A; CONST X = 1 DIV 0; END A.":        fault(api.ErrConst, 1),
		// With a qualifier a name is another one.
		"INTERFACE A; CONST X = 1; END A. MODULE M; IMPORT A; CONST X = A.X + TRUE; END M.": fault(api.ErrConst, 101),
		// Types come behind all constants.
		"MODULE M; TYPE T = x; TYPE U = U; CONST X = NIL; END M.":    fault(api.ErrConst, 3),
		"MODULE N; TYPE T = x; END N. MODULE M; CONST X = x; END M.": fault(api.ErrName, 101),
	})
}

// Number 6: names in types, signatures, revelations.
func TestTypeNames(t *testing.T) {
	const a = "INTERFACE A; CONST N = 1; TYPE T <: ROOT; TYPE U = INTEGER; VAR v: INTEGER; EXCEPTION E; PROCEDURE p(); END A. MODULE A; TYPE own = INTEGER; PROCEDURE p() = BEGIN END p; END A. "
	table := map[string]api.Fault{}
	for _, d := range []string{
		// A TyName that means no type.
		"TYPE X = x", "TYPE X = A.N", "TYPE X = A.v", "TYPE X = A.E", "TYPE X = A.p", "TYPE X = T", "TYPE X = A.own", "TYPE X = B.T", "TYPE X = M.Z", "TYPE X = REF x",
		"VAR X: x", "VAR X: REF ARRAY OF x", "VAR X: REF RECORD a: INTEGER; b: x; END", "TYPE X = x OBJECT END", "TYPE X = ROOT OBJECT a: x; END",
		"TYPE X = ROOT OBJECT METHODS m(a: x); END", "TYPE X = ROOT OBJECT METHODS m(): x; END", "TYPE X = ROOT OBJECT METHODS m(a: INTEGER; b: REF x); END",
		"PROCEDURE X(a: x) = BEGIN END X", "PROCEDURE X(): REF x = BEGIN END X", "REVEAL A.T <: x", "REVEAL A.T <: REF x",
		// An NdRaise that means no exception.
		"PROCEDURE X() RAISES {x} = BEGIN END X", "PROCEDURE X() RAISES {ALERTED, A.E, A.T} = BEGIN END X", "PROCEDURE X() RAISES {E} = BEGIN END X", "TYPE X = ROOT OBJECT METHODS m() RAISES {A.N}; END",
		"PROCEDURE X() RAISES {A.v} = BEGIN END X", "PROCEDURE X() RAISES {A.p} = BEGIN END X",
		// An ExName that means no procedure.
		"TYPE X = ROOT OBJECT METHODS m() := x; END", "TYPE X = ROOT OBJECT METHODS m() := A.v; END", "TYPE X = ROOT OBJECT METHODS m(); n() := A.N; END", "TYPE X = ROOT OBJECT METHODS m() := A.p; n() := A.E; END",
		"TYPE X = ROOT OBJECT OVERRIDES m := x; END", "TYPE X = ROOT OBJECT OVERRIDES m := A.T; END", "TYPE X = ROOT OBJECT METHODS m() := A.p; OVERRIDES m := A.p; n := p; END",
		// A DcReveal that means no opaque type.
		"REVEAL x = BRANDED \"b\" REF INTEGER", "REVEAL A.x <: ROOT", "REVEAL A.U <: ROOT", "REVEAL A.v <: ROOT", "REVEAL T <: ROOT", "REVEAL B.T <: ROOT", "REVEAL Z <: ROOT", "REVEAL A.p <: ROOT",
		// Ahead of what else is wrong in the declaration.
		"TYPE X = ROOT OBJECT a: [2 .. 1]; METHODS m() := x; END", "VAR X: REF RECORD a: [NIL .. 1]; b: x; END",
	} {
		table[a+"MODULE M; IMPORT A; "+d+"; TYPE Z = REF INTEGER; END M."] = fault(api.ErrName, 201)
		table[a+"MODULE M; IMPORT A; TYPE Z = REF INTEGER; VAR y: Z; "+d+"; END M."] = fault(api.ErrName, 203)
	}
	faults(t, table)
	faults(t, map[string]api.Fault{
		"INTERFACE I; TYPE T <: x; END I.":                        fault(api.ErrName, 1),
		"INTERFACE I; TYPE T <: U; VAR U: INTEGER; END I.":        fault(api.ErrName, 1),
		"INTERFACE I; EXCEPTION E; PROCEDURE p(a: E); END I.":     fault(api.ErrName, 2),
		"INTERFACE I; TYPE T <: ROOT; REVEAL I.T <: ROOT; END I.": fault(api.ErrName, 2),
	})
}

// Number 6: type names that come back to themselves, and ranges.
func TestTypeCirclesAndRanges(t *testing.T) {
	faults(t, map[string]api.Fault{
		"MODULE M; TYPE X = Y; TYPE Y = X; END M.":                                                                   fault(api.ErrCycle, 1),
		"MODULE M; TYPE X = X; END M.":                                                                               fault(api.ErrCycle, 1),
		"MODULE M; VAR v: INTEGER; TYPE Z = Y; TYPE W = REF W; TYPE Y = Z; END M.":                                   fault(api.ErrCycle, 2),
		"MODULE M; TYPE X = Y; TYPE Y = Z; TYPE Z = X; VAR v: X; END M.":                                             fault(api.ErrCycle, 1),
		"INTERFACE A; TYPE X = Y; TYPE Y = X; END A. MODULE M EXPORTS A; TYPE Z = X; END M.":                         fault(api.ErrCycle, 1),
		"MODULE M; TYPE W = INTEGER; TYPE X = Y; TYPE Y = X; TYPE Z = zz; END M.":                                    fault(api.ErrCycle, 2),
		"MODULE M; TYPE W = [1 .. 0]; TYPE X = X; TYPE Z = zz; END M.":                                               fault(api.ErrConst, 1),
		"MODULE M; TYPE W = zz; TYPE X = X; TYPE Z = [1 .. 0]; END M.":                                               fault(api.ErrName, 1),
		"MODULE M; TYPE T = [3 .. 2]; END M.":                                                                        fault(api.ErrConst, 1),
		exampleA + exampleBody + "MODULE Main; IMPORT A; TYPE X = Y; TYPE Y = X; VAR t: A.T := NIL; BEGIN END Main.": fault(api.ErrCycle, 201),
	})
	table := map[string]api.Fault{}
	for _, x := range []string{"3 .. 2", "0 .. -1", "TRUE .. 1", "0 .. FALSE", "FALSE .. TRUE", "NIL .. 1", "1 .. NIL", "x .. 1", "1 .. x", "v .. 1", "1 .. p()", "0 .. 1 DIV 0", "0 .. 1000000000 + 1", "-1000000000 - 1 .. 0", "N .. N - 1", "0 .. B", "N .. M.N", "0 .. NUMBER(v)"} {
		for _, d := range []string{"TYPE T = [#]", "VAR T: REF [#]", "TYPE T = REF RECORD a: [0 .. 1]; b: [#]; END", "PROCEDURE T(a: [#]) = BEGIN END T", "TYPE T = ROOT OBJECT METHODS m(): [#]; END"} {
			d = strings.ReplaceAll(d, "#", x)
			table["MODULE M; CONST N = 5; CONST B = TRUE; VAR v: INTEGER; "+d+"; END M."] = fault(api.ErrConst, 4)
		}
	}
	faults(t, table)
	build(t, "MODULE M; CONST N = 5; VAR a: [N .. N]; VAR b: [-1000000000 .. 1000000000]; VAR c: [-N .. N - N]; END M.")
}

// records returns declarations of n variables, each of which has 8 types.
func records(n int) string {
	var s strings.Builder
	for i := range n {
		s.WriteString("VAR v" + strconv.Itoa(i) + ": REF RECORD a: INTEGER; b: INTEGER; c: INTEGER; d: INTEGER; e: INTEGER; f: INTEGER; g: INTEGER; END; ")
	}
	return s.String()
}

// Number 7: 400 types, and one more.
func TestManyTypes(t *testing.T) {
	m, n := "MODULE M; "+records(25), "MODULE N; "+records(25)
	const opaque = "INTERFACE I; TYPE T <: REFANY; END I. "
	for _, src := range []string{
		m + "END M. " + n + "END N.",
		// A name of a type is no further one.
		m + "TYPE T = U; VAR x: T; TYPE U = REF T; END M. MODULE N; " + records(24) + "VAR y: REF RECORD a: INTEGER; b: INTEGER; c: INTEGER; d: INTEGER; e: INTEGER; f: INTEGER; END; END N.",
		opaque + m + "END M. MODULE N; " + records(24) + "VAR y: REF RECORD a: INTEGER; b: INTEGER; c: INTEGER; d: INTEGER; e: INTEGER; END; END N.",
	} {
		if w := build(t, src); len(w.Graph) != 400 {
			t.Errorf("%d types instead of 400", len(w.Graph))
		}
	}
	faults(t, map[string]api.Fault{
		m + "VAR x: INTEGER; END M. " + n + "END N.":               fault(api.ErrLimit, 0),
		m + "END M. " + n + "VAR x: INTEGER; END N.":               fault(api.ErrLimit, 0),
		m + "END M. " + n + "END N. " + opaque:                     fault(api.ErrLimit, 0),
		m + "REVEAL I.T <: ROOT; END M. " + n + "END N. " + opaque: fault(api.ErrName, 26),
		// It comes behind the faults of names, and ahead of types that there cannot be.
		m + "VAR x: INTEGER; END M. " + n + "TYPE T = zz; END N.":                                 fault(api.ErrName, 126),
		m + "TYPE T = U OBJECT END; TYPE U = INTEGER; END M. " + n + "END N.":                     fault(api.ErrLimit, 0),
		m + "TYPE T = U OBJECT END; END M. MODULE N; TYPE V = INTEGER; END N.":                    fault(api.ErrName, 26),
		m + "TYPE T = U OBJECT END; TYPE U = INTEGER; END M. MODULE N; " + records(24) + "END N.": fault(api.ErrType, 26),
	})
}

// Number 8: types that there cannot be.
func TestTypeFaults(t *testing.T) {
	faults(t, map[string]api.Fault{
		// Supers that are none.
		"MODULE M; TYPE T = U OBJECT END; TYPE U = REF INTEGER; END M.":                            fault(api.ErrType, 1),
		"MODULE M; TYPE U = INTEGER; TYPE T = U OBJECT END; END M.":                                fault(api.ErrType, 2),
		"MODULE M; TYPE U = [0 .. 1]; VAR v: U OBJECT END; END M.":                                 fault(api.ErrType, 2),
		"MODULE M; TYPE U = NULL; PROCEDURE p(a: INTEGER): U OBJECT END = BEGIN END p; END M.":     fault(api.ErrType, 2),
		"MODULE M; TYPE U = REFANY; TYPE T = REF U OBJECT END; END M.":                             fault(api.ErrType, 2),
		"MODULE M; TYPE U = REF RECORD x: INTEGER; END; TYPE V = U; TYPE T = V OBJECT END; END M.": fault(api.ErrType, 3),
		"INTERFACE I; TYPE T <: U; TYPE U = REF INTEGER; END I.":                                   fault(api.ErrType, 1),
		"INTERFACE I; TYPE U = BOOLEAN; TYPE T <: U; END I.":                                       fault(api.ErrType, 2),
		"INTERFACE I; TYPE U = NULL; TYPE T <: U; END I.":                                          fault(api.ErrType, 2),
		"INTERFACE I; TYPE U <: T; TYPE T = REF INTEGER; TYPE V = U OBJECT END; END I.":            fault(api.ErrType, 1),
		// What leads back to itself.
		"MODULE M; TYPE T = U OBJECT END; TYPE U = T OBJECT END; END M.":                                    fault(api.ErrType, 1),
		"MODULE M; TYPE T = T OBJECT END; END M.":                                                           fault(api.ErrType, 1),
		"MODULE M; TYPE S = T OBJECT END; TYPE T = U OBJECT END; TYPE U = V; TYPE V = T OBJECT END; END M.": fault(api.ErrType, 2),
		"INTERFACE I; TYPE T <: T; END I.":                                                                  fault(api.ErrType, 1),
		"INTERFACE I; TYPE S = T OBJECT END; TYPE U = T; TYPE T <: U; END I.":                               fault(api.ErrType, 3),
		"INTERFACE I; TYPE T <: U; TYPE U = T OBJECT END; END I.":                                           fault(api.ErrType, 1),
		// Names that are not different.
		"MODULE M; TYPE T = ROOT OBJECT x: INTEGER; x: INTEGER; END; END M.":                                                      fault(api.ErrType, 1),
		"MODULE M; VAR v: INTEGER; VAR w: REF RECORD x: INTEGER; y: INTEGER; x: BOOLEAN; END; END M.":                             fault(api.ErrType, 2),
		"MODULE M; TYPE T = ROOT OBJECT METHODS m(); n(); m(); END; END M.":                                                       fault(api.ErrType, 1),
		"MODULE M; TYPE T = ROOT OBJECT OVERRIDES m := p; m := p; END; PROCEDURE p() = BEGIN END p; END M.":                       fault(api.ErrType, 1),
		"MODULE N; END N. MODULE M; PROCEDURE q(a: INTEGER; b: REF REF RECORD x: INTEGER; x: INTEGER; END) = BEGIN END q; END M.": fault(api.ErrType, 101),
		// The least place counts.
		"MODULE M; TYPE T = ROOT OBJECT x: INTEGER; x: INTEGER; END; TYPE U = V OBJECT END; TYPE V = INTEGER; END M.": fault(api.ErrType, 1),
		"MODULE M; TYPE U = V OBJECT END; TYPE T = ROOT OBJECT x: INTEGER; x: INTEGER; END; TYPE V = INTEGER; END M.": fault(api.ErrType, 1),
		"MODULE M; TYPE V = INTEGER; TYPE T = ROOT OBJECT x: INTEGER; x: INTEGER; END; TYPE U = T OBJECT END; END M.": fault(api.ErrType, 2),
	})
	for _, src := range []string{
		"MODULE M; TYPE T = U OBJECT END; TYPE U = V; TYPE V = ROOT OBJECT END; TYPE W = X OBJECT END; TYPE X = MUTEX; TYPE Y = Z OBJECT END; TYPE Z = CONDITION; TYPE A = B OBJECT END; TYPE B = ROOT; END M.",
		"INTERFACE I; TYPE T <: ROOT; TYPE U <: T; TYPE V <: REFANY; TYPE W <: X; TYPE X = REFANY; TYPE Y <: MUTEX; TYPE Z <: C; TYPE C = CONDITION; TYPE D = T OBJECT END; TYPE E <: D; TYPE F = V OBJECT END; END I.",
		// A name may be that of a field, a method and an override, of parameters twice, and again in another type.
		"MODULE M; TYPE T = ROOT OBJECT x: REF RECORD x: INTEGER; END; METHODS x(x: T; x: T): T; OVERRIDES x := p; END; PROCEDURE p(x: T; x: T) = BEGIN END p; END M.",
		// A circle that does not go by Supers alone.
		"MODULE M; TYPE T = ROOT OBJECT x: T; METHODS m(a: T): T; END; TYPE R = REF R; TYPE S = REF ARRAY OF S; VAR v: REF RECORD a: S; b: Q; END; TYPE Q = REF RECORD q: Q; END; END M.",
	} {
		build(t, src)
	}
}

// Number 8: any type can be that of a variable, a parameter, a field or an element.
func TestAnyTypes(t *testing.T) {
	for _, x := range []string{"INTEGER", "BOOLEAN", "REFANY", "NULL", "ROOT", "MUTEX", "CONDITION", "[0 .. 1]", "REF INTEGER", "REF RECORD a: NULL; END", "REF ARRAY OF NULL", "ROOT OBJECT END", "I.O"} {
		src := strings.ReplaceAll("INTERFACE I; TYPE O <: ROOT; END I. MODULE M; IMPORT I; TYPE T = #; VAR a: #; VAR b: REF #; VAR c: REF ARRAY OF #; VAR d: REF RECORD a: #; END; VAR e: ROOT OBJECT a: #; METHODS m(a: #): #; END; PROCEDURE p(a: #): # = BEGIN END p; END M.", "#", x)
		build(t, src)
	}
}

// Number 8: types that cannot be revealed.
func TestRevealFaults(t *testing.T) {
	const i = "INTERFACE I; TYPE T <: REFANY; END I. "
	table := map[string]api.Fault{}
	fully := func(x string) string { return i + "MODULE M; IMPORT I; TYPE X = " + x + "; REVEAL I.T = X; END M." }
	partly := func(x string) string { return i + "MODULE M; IMPORT I; TYPE X = " + x + "; REVEAL I.T <: X; END M." }
	for _, x := range []string{"INTEGER", "BOOLEAN", "[0 .. 1]", "NULL"} {
		table[fully(x)], table[partly(x)] = fault(api.ErrType, 102), fault(api.ErrType, 102)
	}
	for _, x := range []string{"REFANY", "ROOT", "MUTEX", "CONDITION", "REF INTEGER", "REF RECORD a: INTEGER; END", "REF ARRAY OF INTEGER", "ROOT OBJECT END", "I.T"} {
		table[fully(x)] = fault(api.ErrType, 102)
		build(t, partly(x))
	}
	for _, x := range []string{"BRANDED \"b\" REF INTEGER", "BRANDED \"b\" REF RECORD a: INTEGER; END", "BRANDED \"b\" REF ARRAY OF INTEGER", "ROOT BRANDED \"b\" OBJECT END"} {
		build(t, fully(x))
		build(t, partly(x))
	}
	faults(t, table)
	faults(t, map[string]api.Fault{
		i + "MODULE M; IMPORT I; REVEAL I.T = REF INTEGER; END M.":                                                              fault(api.ErrType, 101),
		i + "MODULE M; IMPORT I; REVEAL I.T <: INTEGER; END M.":                                                                 fault(api.ErrType, 101),
		"INTERFACE I; REVEAL T <: NULL; TYPE T <: REFANY; END I.":                                                               fault(api.ErrType, 1),
		i + "MODULE M; IMPORT I; REVEAL I.T <: NULL; TYPE S = S OBJECT END; TYPE R = ROOT OBJECT x: NULL; x: NULL; END; END M.": fault(api.ErrType, 101),
		i + "MODULE M; IMPORT I; TYPE R = ROOT OBJECT x: NULL; x: NULL; END; REVEAL I.T <: NULL; END M.":                        fault(api.ErrType, 101),
		i + "MODULE M; IMPORT I; REVEAL I.T <: ROOT OBJECT x: NULL; x: NULL; END; REVEAL I.T <: NULL; END M.":                   fault(api.ErrType, 101),
		i + "MODULE M; IMPORT I; REVEAL I.T <: ROOT; REVEAL I.T = ROOT; REVEAL I.T <: NULL; END M.":                             fault(api.ErrType, 102),
	})
}

// Number 9: procedures of modules that have another signature than that of the interface.
func TestSignatures(t *testing.T) {
	const i = "INTERFACE I; EXCEPTION E; EXCEPTION F; TYPE T = REF INTEGER; PROCEDURE p#; END I. "
	source := func(s, other string) string {
		return strings.ReplaceAll(i, "#", s) + "MODULE I; TYPE R = REF INTEGER; TYPE Q = R; PROCEDURE p" + other + " = BEGIN END p; END I."
	}
	table := map[string]api.Fault{}
	for s, others := range map[string][]string{
		"()":                                {"(a: INTEGER)", "(): INTEGER", "() RAISES {E}", "() RAISES {ALERTED}"},
		"(a: INTEGER)":                      {"()", "(a: BOOLEAN)", "(a: [0 .. 1])", "(a: INTEGER; b: INTEGER)", "(): INTEGER", "(a: INTEGER): INTEGER"},
		"(a: T; b: BOOLEAN)":                {"(a: BOOLEAN; b: T)", "(a: T; b: INTEGER)", "(a: REF BOOLEAN; b: BOOLEAN)", "(a: T)"},
		"(): T":                             {"()", "(): REF T", "(): INTEGER", "(): BRANDED \"b\" REF INTEGER"},
		"() RAISES {E, F}":                  {"()", "() RAISES {E}", "() RAISES {F}", "() RAISES {E, F, ALERTED}", "() RAISES {ALERTED, E}"},
		"(a: [0 .. 1])":                     {"(a: [0 .. 2])", "(a: [-1 .. 1])", "(a: INTEGER)"},
		"(a: ROOT OBJECT METHODS m(); END)": {"(a: ROOT OBJECT METHODS n(); END)", "(a: ROOT OBJECT END)", "(a: ROOT)", "(a: ROOT OBJECT METHODS m() := p; END)"},
	} {
		for _, other := range others {
			table[source(s, other)] = fault(api.ErrSig, 103)
		}
	}
	faults(t, table)
	for s, others := range map[string][]string{
		"()":                        {"()"},
		"(a: INTEGER)":              {"(b: INTEGER)"},
		"(a: T; b: T): T":           {"(b: REF INTEGER; a: R): Q", "(a: I.T; a: T): R"},
		"() RAISES {E, F}":          {"() RAISES {F, E}", "() RAISES {E, F, E, F}", "() RAISES {I.F, E, F}"},
		"() RAISES {ALERTED, F, F}": {"() RAISES {F, ALERTED}", "() RAISES {F, ALERTED, I.F, ALERTED}"},
		"() RAISES {}":              {"()"},
		"(a: [0 .. 1 + 1])":         {"(a: [1 - 1 .. 2])"},
	} {
		for _, other := range others {
			build(t, source(s, other))
		}
	}
}

// Number 9: procedures that two modules implement; number 10: those that none implements.
func TestImplementations(t *testing.T) {
	const i = "INTERFACE I; PROCEDURE p(); PROCEDURE q(); END I. "
	const p, q = "PROCEDURE p() = BEGIN END p; ", "PROCEDURE q() = BEGIN END q; "
	faults(t, map[string]api.Fault{
		i + "MODULE M EXPORTS I; " + p + q + "END M. MODULE N EXPORTS I; " + p + "END N.":                                    fault(api.ErrTwice, 201),
		"MODULE M EXPORTS I; " + p + q + "END M. MODULE N EXPORTS I; VAR x: INTEGER; " + q + "END N. " + i:                   fault(api.ErrTwice, 102),
		i + "MODULE M EXPORTS I; " + p + "END M. MODULE N EXPORTS I; " + p + "END N.":                                        fault(api.ErrTwice, 201),
		i + "MODULE M EXPORTS I; " + p + "END M. MODULE N EXPORTS I; PROCEDURE p(a: INTEGER) = BEGIN END p; END N.":          fault(api.ErrSig, 201),
		i + "MODULE M EXPORTS I; " + p + "END M. MODULE N EXPORTS I; " + p + "PROCEDURE q(a: INTEGER) = BEGIN END q; END N.": fault(api.ErrTwice, 201),
		i + "MODULE M EXPORTS I; PROCEDURE q(a: INTEGER) = BEGIN END q; END M.":                                              fault(api.ErrSig, 101),
		i + "MODULE M EXPORTS I; " + p + "PROCEDURE q(a: INTEGER) = BEGIN END q; END M. MODULE N EXPORTS I; " + p + "END N.": fault(api.ErrSig, 102),
		i:                               fault(api.ErrLacking, 1),
		i + "MODULE I; END I.":          fault(api.ErrLacking, 1),
		i + "MODULE I; " + p + "END I.": fault(api.ErrLacking, 2),
		i + "MODULE I; " + q + "END I.": fault(api.ErrLacking, 1),
		i + "MODULE M; IMPORT I; " + p + q + "END M.":                                                      fault(api.ErrLacking, 1),
		"MODULE M EXPORTS I; " + q + "END M. " + i:                                                         fault(api.ErrLacking, 101),
		"INTERFACE A; END A. INTERFACE B; VAR x: INTEGER; PROCEDURE p(); END B. MODULE A; " + p + "END A.": fault(api.ErrLacking, 102),
		exampleA + exampleMain: fault(api.ErrLacking, 5),
		exampleA + strings.Replace(exampleBody, " RAISES {E}", "", 1) + exampleMain: fault(api.ErrSig, 103),
	})
	build(t, i+"MODULE I; "+p+"END I. MODULE N EXPORTS I; "+q+"END N.")
	build(t, i+"MODULE I; "+p+q+"END I. MODULE N EXPORTS I; END N. MODULE M; IMPORT I; "+p+q+"END M.")
}

// The faults of each number come ahead of those of all greater ones, wherever they stand.
func TestOrderOfFaults(t *testing.T) {
	valid := parse(t, "INTERFACE O; TYPE T <: ROOT; END O. UNSAFE INTERFACE U; END U.")
	table := []struct {
		src string
		e   api.Errno
		at  int
	}{
		{"GENERIC INTERFACE Z(E); END Z.", api.ErrPlain, 0},
		{"MODULE A; IMPORT Nothing; END A.", api.ErrUnit, 0},
		{"MODULE B; IMPORT U; END B.", api.ErrSafe, 0},
		{"INTERFACE C; IMPORT C; END C.", api.ErrCycle, 0},
		{"MODULE D; VAR x: INTEGER; VAR x: INTEGER; END D.", api.ErrTwice, 2},
		{"MODULE E; CONST x = NIL; END E.", api.ErrConst, 1},
		{"MODULE F; TYPE x = nothing; END F.", api.ErrName, 1},
		{"MODULE G; " + records(30) + "END G. MODULE H; " + records(30) + "END H.", api.ErrLimit, -1},
		{"MODULE I; IMPORT O; REVEAL O.T <: NULL; END I.", api.ErrType, 1},
		{"INTERFACE J; PROCEDURE p(); END J. MODULE J; PROCEDURE p(x: INTEGER) = BEGIN END p; END J.", api.ErrSig, 101},
		{"INTERFACE K; PROCEDURE p(); END K.", api.ErrLacking, 1},
	}
	at := func(ahead, place int) int {
		if place < 0 {
			return 0
		}
		return 100*ahead + place
	}
	for k, x := range table {
		first := parse(t, x.src)
		expectFault(t, slices.Concat(first, valid), fault(x.e, at(0, x.at)))
		for _, y := range table[k+1:] {
			second := parse(t, y.src)
			expectFault(t, slices.Concat(first, second, valid), fault(x.e, at(0, x.at)))
			expectFault(t, slices.Concat(second, first, valid), fault(x.e, at(len(second), x.at)))
			expectFault(t, slices.Concat(valid, second, first), fault(x.e, at(2+len(second), x.at)))
		}
	}
}
