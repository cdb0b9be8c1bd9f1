package generic_test

import (
	"strings"
	"testing"

	"trestle/api"
	"trestle/generic"
)

// expectLibrary holds the fault of a library, and all functions that return it first, against what they should return.
func expectLibrary(t *testing.T, what string, l []api.Unit, want api.Fault) {
	t.Helper()
	if f := generic.Check(l); f != want {
		t.Errorf("Check of %s: %+v; expected %+v", what, f, want)
	}
	if want.Err == api.OK {
		return
	}
	if u, f := generic.Expand(l); f != want || len(u) > 0 {
		t.Errorf("Expand of %s: %+v, %+v; expected %+v", what, u, f, want)
	}
	for _, name := range []string{"A", "Z", ""} {
		if w, f := generic.Offers(l, name); f != want || len(w) > 0 {
			t.Errorf("Offers(%s) of %s: %+v, %+v; expected %+v", name, what, w, f, want)
		}
		if at, f := generic.Instances(l, name); f != want || len(at) > 0 {
			t.Errorf("Instances(%s) of %s: %v, %+v; expected %+v", name, what, at, f, want)
		}
	}
	for _, i := range []int{-1, 0, 1, len(l)} {
		if got := fits(l, i); got != (fit{f: want}) {
			t.Errorf("Fits(%d) of %s: %+v; expected %+v", i, what, got, want)
		}
	}
}

// G1: units, generic ones and instances among them, of which no two have a Kind and a Name in common.
func TestCheck(t *testing.T) {
	for what, c := range map[string]struct {
		src  string
		want api.Fault
	}{
		"no units":                        {"", api.Fault{}},
		"the example":                     {exampleA + exampleG + exampleI, api.Fault{}},
		"an interface and a module":       {"INTERFACE A; END A. MODULE A; END A.", api.Fault{}},
		"a module and an interface":       {"MODULE A; END A. INTERFACE A; END A.", api.Fault{}},
		"instances of nothing":            {"INTERFACE I = G(A) END I. MODULE I = G(A, B) END I.", api.Fault{}},
		"names that differ in case":       {"INTERFACE A; END A. INTERFACE a; END a.", api.Fault{}},
		"an interface twice":              {"INTERFACE A; END A. INTERFACE A; END A.", fault(api.ErrTwice, 1)},
		"a module twice, others between":  {"MODULE B; END B. MODULE A; END A. INTERFACE A; END A. MODULE A; BEGIN RETURN END A.", fault(api.ErrTwice, 3)},
		"a module three times":            {"MODULE A; END A. MODULE A; END A. MODULE A; END A.", fault(api.ErrTwice, 1)},
		"two units twice":                 {"MODULE A; END A. MODULE B; END B. MODULE B; END B. MODULE A; END A.", fault(api.ErrTwice, 2)},
		"a generic unit and one that is":  {"GENERIC MODULE A(E); END A. MODULE A; END A.", fault(api.ErrTwice, 1)},
		"a unit and an instance":          {"INTERFACE A; END A. INTERFACE A = G(B) END A.", fault(api.ErrTwice, 1)},
		"a generic unit and its instance": {"GENERIC INTERFACE G(E); END G. INTERFACE G = G(A) END G.", fault(api.ErrTwice, 1)},
		"an unsafe unit and a safe one":   {"UNSAFE INTERFACE A; END A. INTERFACE A; END A.", fault(api.ErrTwice, 1)},
		"generic units of two Kinds":      {"GENERIC INTERFACE G(E); END G. GENERIC MODULE G(E); END G.", api.Fault{}},
	} {
		expectLibrary(t, what, parse(t, c.src), c.want)
	}
	if f := generic.Check(nil); f != (api.Fault{}) {
		t.Errorf("Check of nothing: %+v", f)
	}
}

// G1: at most 30 units, whatever they are.
func TestCheckLimit(t *testing.T) {
	var src strings.Builder
	for _, name := range manyNames(20) {
		src.WriteString("INTERFACE " + name + "; END " + name + ". MODULE " + name + "; END " + name + ".\n")
	}
	l := parse(t, src.String()[:strings.Index(src.String(), "INTERFACE Np")])
	expectLibrary(t, "30 units", l, api.Fault{})
	another := unitOf(t, "INTERFACE A; END A.")
	expectLibrary(t, "31 units", append(l, another), fault(api.ErrLimit, 0))
	expectLibrary(t, "31 units, one twice", append(l, l[0]), fault(api.ErrLimit, 0))
	expectLibrary(t, "31 units, one bad", append([]api.Unit{{}}, l...), fault(api.ErrLimit, 0))
	expectLibrary(t, "31 units of nothing", make([]api.Unit, 31), fault(api.ErrLimit, 0))
	expectLibrary(t, "30 units of nothing", make([]api.Unit, 30), fault(api.ErrTree, 0))
	expectLibrary(t, "30 units, the last one twice", append(l[:29:29], l[28]), fault(api.ErrTwice, 29))
	expectLibrary(t, "30 units, the last one bad", append(l[:29:29], api.Unit{}), fault(api.ErrTree, 29))
}

// G1: the first unit that has a fault decides, and in it what is not well-formed.
func TestCheckOrder(t *testing.T) {
	a, b := unitOf(t, exampleA), unitOf(t, "MODULE B; END B.")
	bad, badToo := copyOf(a), api.Unit{Kind: api.UnModule, Name: "C"}
	bad.Decls[0].Name = "END"
	expectLibrary(t, "a bad one", []api.Unit{bad}, fault(api.ErrTree, 0))
	expectLibrary(t, "a bad one behind others", []api.Unit{a, b, badToo}, fault(api.ErrTree, 2))
	expectLibrary(t, "a bad one ahead of others", []api.Unit{badToo, a, b}, fault(api.ErrTree, 0))
	expectLibrary(t, "a bad one that is there already", []api.Unit{b, a, bad}, fault(api.ErrTree, 2))
	expectLibrary(t, "a bad one, and a good one with its name", []api.Unit{bad, a}, fault(api.ErrTree, 0))
	expectLibrary(t, "a bad one behind one twice", []api.Unit{a, b, b, bad}, fault(api.ErrTwice, 2))
	expectLibrary(t, "a bad one ahead of one twice", []api.Unit{a, b, bad, b}, fault(api.ErrTree, 2))
	expectLibrary(t, "two bad ones", []api.Unit{a, bad, badToo}, fault(api.ErrTree, 1))
}
