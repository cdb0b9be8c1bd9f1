package reveal_test

import (
	"strings"
	"testing"

	"trestle/api"
	"trestle/reveal"
	"trestle/world"
)

// Libraries made by chance, most of which are spoiled, have the fault that the chapter's definitions say.
func TestFaultsByDefinition(t *testing.T) {
	numbers := map[int]int{}
	anyLibraries(1, 1200, func(_ *generator, l []api.Unit) {
		want, number := faultByDefinition(l)
		expectFault(t, l, want)
		numbers[number]++
	})
	for number := range 7 {
		if numbers[number] < 6 {
			t.Errorf("few libraries with the fault %d: %v", number, numbers)
		}
	}
}

// face is an interface with an opaque type that is not revealed.
const face = "INTERFACE A; TYPE T <: ROOT; END A. "

// Number 1: each fault of the layer below comes first, also ahead of what is wrong with a revelation.
func TestFaultsBelow(t *testing.T) {
	for want, src := range map[api.Errno]string{
		api.ErrPlain:   "GENERIC INTERFACE G(E); END G.",
		api.ErrUnit:    "MODULE M; IMPORT X; END M.",
		api.ErrSafe:    "UNSAFE INTERFACE I; END I. MODULE M; IMPORT I; END M.",
		api.ErrCycle:   "INTERFACE I; IMPORT J; END I. INTERFACE J; IMPORT I; END J.",
		api.ErrTwice:   "MODULE M; TYPE X = ROOT; TYPE X = ROOT; END M.",
		api.ErrName:    "MODULE M; REVEAL X = ROOT BRANDED \"b\" OBJECT END; END M.",
		api.ErrConst:   "MODULE M; CONST N = 1 DIV 0; END M.",
		api.ErrType:    "MODULE M; IMPORT A; REVEAL A.T = ROOT OBJECT END; END M.",
		api.ErrSig:     "INTERFACE I; PROCEDURE p(); END I. MODULE I; PROCEDURE p(): INTEGER = BEGIN END p; END I.",
		api.ErrLacking: "INTERFACE I; PROCEDURE p(); END I.",
		api.ErrTree:    "INTERFACE I; END I.",
	} {
		l := parse(t, face+src)
		if want == api.ErrTree {
			l[1].Name = "END"
		}
		f := reveal.Check(l)
		if _, below := world.Build(l); f.Err != want || f != below {
			t.Errorf("%s: %+v, and of the layer below %+v", src, f, below)
		}
		expectFault(t, l, f)
	}
	// More than 400 types are the layer below's ErrLimit.
	modules := func(count int) string {
		return "MODULE M; " + numbered("VAR v: REF REF REF REF REF REF REF REF REF INTEGER; ", 20) + "END M. MODULE N; " + numbered("VAR v: REF REF REF REF REF REF REF REF REF INTEGER; ", count) + "END N. "
	}
	expectFault(t, parse(t, face+modules(19)), fault(api.ErrFull, 1))
	expectFault(t, parse(t, face+modules(20)), fault(api.ErrLimit, 0))
}

// numbered repeats a declaration with the names va, vb and so on.
func numbered(decl string, count int) string {
	s := ""
	for i := range count {
		s += strings.Replace(decl, "VAR v", "VAR v"+string(rune('a'+i)), 1)
	}
	return s
}

// Number 1: at most 60 revelations in all units.
func TestMaxReveals(t *testing.T) {
	const one = "REVEAL A.T <: ROOT; "
	source := func(count int, full string) string {
		return "INTERFACE A; TYPE T <: ROOT; " + strings.Repeat("REVEAL T <: ROOT; ", 39) + "END A. MODULE M; IMPORT A; " + strings.Repeat(one, count-40) + full + "END M."
	}
	const full, circle = "REVEAL A.T = ROOT BRANDED \"b\" OBJECT END; ", "REVEAL A.T = A.T BRANDED \"b\" OBJECT END; "
	expectFaults(t,
		check{source(60, full), api.Fault{}},
		check{source(61, full), fault(api.ErrLimit, 0)},
		check{source(61, one), fault(api.ErrLimit, 0)},
		check{source(61, circle), fault(api.ErrLimit, 0)},
		check{source(60, one), fault(api.ErrFull, 1)},
		check{source(61, "REVEAL A.T = REF INTEGER; "), fault(api.ErrType, 122)},
	)
	s := open(t, source(60, full))
	if n := len(sees(t, s, 1)); n != 60 {
		t.Errorf("a unit sees %d revelations of 60", n)
	}
	if n := len(sees(t, s, 0)); n != 39 {
		t.Errorf("a unit sees %d revelations of 39", n)
	}
	if l := line(t, s, 0); len(l) != 61 || !isLine(t, worldOf(t, s), 0, l) {
		t.Errorf("the line of 60 revelations and a bound: %v", l)
	}
}

// Number 2: each opaque type has just one Full revelation.
func TestFull(t *testing.T) {
	const two = "INTERFACE A; CONST N = 1; TYPE T <: ROOT; TYPE U <: ROOT; END A. "
	const fullT, fullU = "REVEAL A.T = ROOT BRANDED \"t\" OBJECT END; ", "REVEAL A.U = ROOT BRANDED \"u\" OBJECT END; "
	in := func(name, decls string) string {
		return "MODULE " + name + "; IMPORT A; " + decls + "END " + name + ". "
	}
	expectFaults(t,
		check{two, fault(api.ErrFull, 2)},
		check{two + in("M", fullT), fault(api.ErrFull, 3)},
		check{two + in("M", fullU), fault(api.ErrFull, 2)},
		check{two + in("M", fullU+fullT), api.Fault{}},
		check{two + in("M", fullU) + in("N", fullT), api.Fault{}},
		check{in("M", fullT) + two, fault(api.ErrFull, 103)},
		check{in("M", fullT) + two + in("N", fullU), api.Fault{}},
		check{two + in("M", fullT+"REVEAL A.U <: ROOT; "), fault(api.ErrFull, 3)},
		check{two + in("M", "REVEAL A.T <: ROOT; "+fullT+"REVEAL A.U <: ROOT; "+fullU+"REVEAL A.U <: ROOT; "), api.Fault{}},
		check{two + in("M", fullT+fullU+fullT+fullU), fault(api.ErrFull, 103)},
		check{two + in("M", fullT) + in("N", "CONST N = 2; "+fullU+fullT), fault(api.ErrFull, 203)},
		check{two + in("M", fullU) + in("N", fullU), fault(api.ErrFull, 2)},
		check{in("M", fullU) + in("N", fullU) + two, fault(api.ErrFull, 101)},
		check{in("M", fullU) + two + in("N", fullU), fault(api.ErrFull, 102)},
		check{two + in("M", "TYPE R = ROOT BRANDED \"r\" OBJECT END; REVEAL A.T = R; REVEAL A.U = R; "), api.Fault{}},
		check{two + in("M", "TYPE R = ROOT BRANDED \"r\" OBJECT END; REVEAL A.T = R; REVEAL A.T = R; "+fullU), fault(api.ErrFull, 103)},
		// Types of two units with one name are two types.
		check{two + "INTERFACE B; TYPE T <: ROOT; REVEAL T = ROOT BRANDED \"b\" OBJECT END; END B. " + in("M", fullU), fault(api.ErrFull, 2)},
		// What is wrong in another way, too.
		check{two + in("M", "REVEAL A.T = A.T BRANDED \"t\" OBJECT END; "), fault(api.ErrFull, 3)},
		check{two + in("M", "REVEAL A.T = BRANDED \"t\" REF INTEGER; TYPE O = A.T OBJECT END; "), fault(api.ErrFull, 3)},
		check{two + in("M", fullT+"REVEAL A.T <: A.T; "), fault(api.ErrFull, 3)},
		check{two + in("M", "REVEAL A.T = BRANDED \"t\" REF INTEGER; "), fault(api.ErrFull, 3)},
	)
}

// Number 3: by the concrete graph, with the least index that stands on a circle.
func TestCircle(t *testing.T) {
	m := func(decls string) string { return "MODULE M; IMPORT A; " + decls + "END M. " }
	const two = "INTERFACE A; TYPE T <: ROOT; TYPE U <: ROOT; END A. " // 0 to 3
	const around = "REVEAL A.T = A.U BRANDED \"t\" OBJECT END; REVEAL A.U = A.T BRANDED \"u\" OBJECT END; "
	expectFaults(t,
		check{face + m("REVEAL A.T = A.T BRANDED \"r\" OBJECT END; "), fault(api.ErrCircle, 2)},
		check{m("REVEAL A.T = A.T BRANDED \"r\" OBJECT END; ") + face, fault(api.ErrCircle, 0)},
		check{face + m("VAR i: INTEGER; REVEAL A.T = A.T BRANDED \"r\" OBJECT i: INTEGER; END; "), fault(api.ErrCircle, 4)},
		check{two + m(around), fault(api.ErrCircle, 4)},
		check{two + m("TYPE O = A.T OBJECT END; "+around), fault(api.ErrCircle, 5)},
		check{two + m("TYPE O = A.T OBJECT END; REVEAL A.U = O BRANDED \"u\" OBJECT END; REVEAL A.T = A.U BRANDED \"t\" OBJECT END; "), fault(api.ErrCircle, 4)},
		check{two + m("REVEAL A.T = ROOT BRANDED \"t\" OBJECT END; REVEAL A.U = A.U BRANDED \"u\" OBJECT END; "), fault(api.ErrCircle, 6)},
		check{two + m("REVEAL A.T = A.T BRANDED \"t\" OBJECT END; REVEAL A.U = A.U BRANDED \"u\" OBJECT END; "), fault(api.ErrCircle, 4)},
		// Fields lead around without harm.
		check{two + m("REVEAL A.T = ROOT BRANDED \"t\" OBJECT u: A.U; END; REVEAL A.U = ROOT BRANDED \"u\" OBJECT t: A.T; END; "), api.Fault{}},
		// What is wrong in another way, too: a Super that is none ahead, a circle of revelations, no line.
		check{"INTERFACE A; TYPE X <: REFANY; TYPE O = X OBJECT END; TYPE T <: ROOT; REVEAL X = BRANDED \"x\" REF INTEGER; END A. " + m("REVEAL A.T = A.T BRANDED \"t\" OBJECT END; "), fault(api.ErrCircle, 7)},
		check{face + m("REVEAL A.T <: A.T; REVEAL A.T = A.T BRANDED \"r\" OBJECT END; "), fault(api.ErrCircle, 2)},
		check{face + m("REVEAL A.T <: MUTEX; REVEAL A.T = A.T BRANDED \"r\" OBJECT END; "), fault(api.ErrCircle, 3)},
	)
}

// Number 4: what an object type stands below has to be able to be a Super, as it really is.
func TestSuper(t *testing.T) {
	m := func(decls string) string { return "MODULE M; IMPORT A; " + decls + "END M. " }
	const any = "INTERFACE A; TYPE T <: REFANY; TYPE O = T OBJECT END; TYPE P = T OBJECT END; END A. "
	const anyU = "INTERFACE A; TYPE U <: REFANY; TYPE T <: REFANY; END A. "
	expectFaults(t,
		check{any + m("REVEAL A.T = BRANDED \"r\" REF INTEGER; "), fault(api.ErrSuper, 2)},
		check{any + m("REVEAL A.T = BRANDED \"r\" REF RECORD a: INTEGER; END; "), fault(api.ErrSuper, 2)},
		check{any + m("REVEAL A.T = BRANDED \"r\" REF ARRAY OF INTEGER; "), fault(api.ErrSuper, 2)},
		check{m("REVEAL A.T = BRANDED \"r\" REF INTEGER; ") + any, fault(api.ErrSuper, 4)},
		check{any + m("REVEAL A.T = ROOT BRANDED \"r\" OBJECT END; "), api.Fault{}},
		check{any + m("REVEAL A.T = MUTEX BRANDED \"r\" OBJECT END; VAR r: ROOT; "), api.Fault{}},
		check{any + m("TYPE K = CONDITION; REVEAL A.T = K BRANDED \"r\" OBJECT END; VAR r: ROOT; "), api.Fault{}},
		// The least index may be that of an opaque type, which really is such an object type.
		check{anyU + m("REVEAL A.U = A.T BRANDED \"u\" OBJECT END; REVEAL A.T = BRANDED \"t\" REF INTEGER; "), fault(api.ErrSuper, 0)},
		check{anyU + m("TYPE O = A.T OBJECT END; REVEAL A.U = O BRANDED \"u\" OBJECT END; REVEAL A.T = BRANDED \"t\" REF INTEGER; "), fault(api.ErrSuper, 4)},
		// What is wrong in another way, too: a circle of revelations, no line.
		check{any + m("REVEAL A.T = BRANDED \"r\" REF INTEGER; REVEAL A.T <: A.T; "), fault(api.ErrSuper, 2)},
		check{any + m("REVEAL A.T <: MUTEX; REVEAL A.T = BRANDED \"r\" REF INTEGER; "), fault(api.ErrSuper, 2)},
	)
}

// Number 5: by the graph with all revelations.
func TestCircleOfReveals(t *testing.T) {
	m := func(decls string) string { return "MODULE M; IMPORT A; " + decls + "END M. " }
	const full = "REVEAL A.T = ROOT BRANDED \"t\" OBJECT END; "
	expectFaults(t,
		check{face + m(full+"REVEAL A.T <: A.T; "), fault(api.ErrCircle, 0)},
		check{face + m("REVEAL A.T <: A.T; "+full), fault(api.ErrCircle, 0)},
		check{face + m("TYPE S = A.T; REVEAL A.T <: S; "+full), fault(api.ErrCircle, 0)},
		check{"INTERFACE A; TYPE T <: ROOT; REVEAL T <: T; END A. " + m(full), fault(api.ErrCircle, 0)},
		check{face + m("TYPE P = A.T OBJECT END; REVEAL A.T <: P; "+full), fault(api.ErrCircle, 0)},
		check{"INTERFACE A; TYPE T <: ROOT; TYPE U <: ROOT; REVEAL T <: U; REVEAL U <: T; END A. " + m(full+"REVEAL A.U = ROOT BRANDED \"t\" OBJECT END; "), fault(api.ErrCircle, 0)},
		check{"INTERFACE A; TYPE T <: ROOT; TYPE U <: T; REVEAL T <: U; END A. " + m(full+"REVEAL A.U = ROOT BRANDED \"t\" OBJECT END; "), fault(api.ErrCircle, 0)},
		// The bound is the opaque type itself, or a revelation of it lies below another type that is the same.
		check{"INTERFACE A; TYPE T <: ROOT; TYPE U <: T; END A. " + m(full+"REVEAL A.U = ROOT BRANDED \"t\" OBJECT END; "), api.Fault{}},
		// What is wrong in another way, too: no line.
		check{face + m("REVEAL A.T <: MUTEX; REVEAL A.T <: A.T; "+full), fault(api.ErrCircle, 0)},
	)
}

// Number 6: all that is revealed lies in one line.
func TestLineFaults(t *testing.T) {
	m := func(decls string) string { return "MODULE M; IMPORT A; " + decls + "END M. " }
	const full = "REVEAL A.T = A.Q BRANDED \"t\" OBJECT END; "
	bound := func(name string) string {
		return "INTERFACE A; TYPE P = MUTEX OBJECT END; TYPE Q = P OBJECT q: INTEGER; END; TYPE K = CONDITION; TYPE T <: " + name + "; VAR r: ROOT; VAR a: REFANY; END A. "
	}
	expectFaults(t,
		check{bound("P") + m("REVEAL A.T <: A.P; REVEAL A.T <: A.Q; "+full), api.Fault{}},
		check{bound("REFANY") + m(full+"REVEAL A.T <: A.Q; REVEAL A.T <: A.P; REVEAL A.T <: MUTEX; REVEAL A.T <: ROOT; REVEAL A.T <: REFANY; "), api.Fault{}},
		check{bound("Q") + m("REVEAL A.T <: A.Q; "+full), api.Fault{}},
		// What does not lie below the bound, of a Full one, and of others.
		check{bound("Q") + m("REVEAL A.T = A.P BRANDED \"t\" OBJECT END; "), fault(api.ErrLine, 101)},
		check{bound("K") + m(full), fault(api.ErrLine, 101)},
		check{bound("MUTEX") + m("REVEAL A.T = BRANDED \"t\" REF INTEGER; "), fault(api.ErrLine, 101)},
		check{bound("Q") + m(full+"REVEAL A.T <: A.P; "), fault(api.ErrLine, 102)},
		check{bound("MUTEX") + m("REVEAL A.T <: ROOT; "+full), fault(api.ErrLine, 101)},
		check{bound("ROOT") + m("REVEAL A.T <: MUTEX; REVEAL A.T <: REFANY; "+full), fault(api.ErrLine, 102)},
		// What does not lie above what the type really is.
		check{bound("ROOT") + m("REVEAL A.T <: CONDITION; "+full), fault(api.ErrLine, 101)},
		check{bound("ROOT") + m("REVEAL A.T <: A.Q; REVEAL A.T = A.P BRANDED \"t\" OBJECT END; "), fault(api.ErrLine, 101)},
		check{bound("ROOT") + m("REVEAL A.T = A.P BRANDED \"t\" OBJECT END; REVEAL A.T <: A.P; REVEAL A.T <: A.Q; "), fault(api.ErrLine, 103)},
		check{bound("REFANY") + m("REVEAL A.T = BRANDED \"t\" REF INTEGER; REVEAL A.T <: REFANY; REVEAL A.T <: ROOT; "), fault(api.ErrLine, 103)},
		check{bound("REFANY") + m("REVEAL A.T <: REF INTEGER; REVEAL A.T = BRANDED \"t\" REF INTEGER; "), fault(api.ErrLine, 101)},
		check{bound("ROOT") + m("TYPE D = A.T OBJECT END; TYPE E = A.Q OBJECT END; REVEAL A.T <: E; "+full), fault(api.ErrLine, 103)},
		// What lies neither below nor above what stands ahead of it: that is not above what the type really is itself.
		check{bound("ROOT") + m("TYPE X = A.P OBJECT x: INTEGER; END; REVEAL A.T <: A.Q; REVEAL A.T <: X; "+full), fault(api.ErrLine, 103)},
		check{bound("ROOT") + m("TYPE X = A.P OBJECT x: INTEGER; END; REVEAL A.T <: X; REVEAL A.T <: A.Q; "+full), fault(api.ErrLine, 102)},
		// The least place, also of two types, in the order of the units.
		check{m("REVEAL A.T <: CONDITION; "+full) + bound("ROOT"), fault(api.ErrLine, 1)},
		check{bound("ROOT") + m(full) + "MODULE N; IMPORT A; CONST N = 1; REVEAL A.T <: A.P; REVEAL A.T <: A.U; TYPE X = A.T; END N. INTERFACE B; END B. ", fault(api.ErrName, 203)},
		check{bound("ROOT") + m(full) + "MODULE N; IMPORT A; CONST N = 1; REVEAL A.T <: A.P; REVEAL A.T <: CONDITION; TYPE X = A.T; END N. INTERFACE B; END B. ", fault(api.ErrLine, 203)},
		// What is the same lies below and above, and what is really the same.
		check{bound("ROOT") + m("TYPE O = MUTEX OBJECT END; REVEAL A.T <: O; REVEAL A.T <: A.P; "+full), api.Fault{}},
		check{bound("ROOT") + "INTERFACE B; IMPORT A; TYPE U <: ROOT; REVEAL A.T <: U; END B. " + "MODULE M; IMPORT A, B; REVEAL B.U = A.P BRANDED \"u\" OBJECT END; REVEAL A.T = B.U BRANDED \"t\" OBJECT END; END M.", api.Fault{}},
		check{bound("ROOT") + "INTERFACE B; IMPORT A; TYPE U <: ROOT; REVEAL A.T <: U; END B. " + "MODULE M; IMPORT A, B; REVEAL B.U = A.P BRANDED \"u\" OBJECT END; REVEAL A.T = A.P BRANDED \"t\" OBJECT END; END M.", fault(api.ErrLine, 102)},
		check{bound("ROOT") + "INTERFACE B; IMPORT A; TYPE U <: ROOT; REVEAL A.T <: U; END B. " + "MODULE M; IMPORT A, B; REVEAL B.U = A.P BRANDED \"u\" OBJECT END; REVEAL A.T = A.P BRANDED \"u\" OBJECT END; END M.", api.Fault{}},
	)
}

// With a fault there is nothing else.
func TestFaultAlone(t *testing.T) {
	for _, src := range []string{face, "MODULE M; IMPORT X; END M.", face + "MODULE M; IMPORT A; REVEAL A.T = BRANDED \"b\" REF INTEGER; END M."} {
		s, f := reveal.In(parse(t, src))
		if s != nil || f.Err == api.OK {
			t.Errorf("%v and %+v, of %s", s, f, src)
		}
		if _, e := s.Concrete(); e != api.ErrNil {
			t.Errorf("a sight that there is not: %v", e)
		}
	}
}
