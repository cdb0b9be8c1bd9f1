package world_test

import (
	"slices"
	"strings"
	"testing"

	"trestle/api"
	"trestle/world"
)

// keys returns the words of a text.
func keys(s string) []string { return strings.Fields(s) }

func expectKeys(t *testing.T, call string, got []string, e api.Errno, want string) {
	t.Helper()
	if e != api.OK || !slices.Equal(got, keys(want)) {
		t.Errorf("%s: %v, %v instead of %s", call, got, e, want)
	}
}

// F2: the exports of units, and what they need.
func TestExportsAndNeeds(t *testing.T) {
	l := parse(t, exampleA+exampleBody+exampleMain)
	for i, want := range []string{"", "A", ""} {
		got, e := world.Exports(l, i)
		expectKeys(t, "Exports", got, e, want)
	}
	for i, want := range []string{"", "A.", "A A."} {
		got, e := world.Needs(l, i)
		expectKeys(t, "Needs", got, e, want)
	}
	const src = "INTERFACE A; IMPORT C, B; END A. INTERFACE B; END B. INTERFACE C; IMPORT B; END C. " +
		"MODULE A; IMPORT B; END A. MODULE B EXPORTS C, B; IMPORT A, D; END B. MODULE M EXPORTS D, A; IMPORT D; END M. MODULE N; IMPORT D, A, D1; END N. INTERFACE D; END D. MODULE D EXPORTS D; IMPORT D; END D. INTERFACE D1; END D1. MODULE O; END O."
	l = parse(t, src)
	for i, want := range []string{"", "", "", "A", "C B", "D A", "", "", "D", "", ""} {
		got, e := world.Exports(l, i)
		expectKeys(t, "Exports of "+world.Key(l[i]), got, e, want)
	}
	for i, want := range []string{"B. C.", "", "B.", "A. B B.", "A A. B. C. D D. M", "A. D D.", "A A. D D. D1. M", "", "D. M", "", ""} {
		got, e := world.Needs(l, i)
		expectKeys(t, "Needs of "+world.Key(l[i]), got, e, want)
	}
	// A module of the Name of an interface that it does not export is refused only behind these.
	l = parse(t, "INTERFACE A; END A. INTERFACE C; END C. MODULE A EXPORTS C; END A.")
	got, e := world.Exports(l, 2)
	expectKeys(t, "Exports", got, e, "C")
	got, e = world.Needs(l, 2)
	expectKeys(t, "Needs", got, e, "C.")
}

// F2: the errors of the faults up to number 3, then ErrArg; no others.
func TestErrorsOfUnits(t *testing.T) {
	for src, want := range map[string]api.Errno{
		"INTERFACE A; END A. INTERFACE A; END A.":                                 api.ErrTwice,
		"GENERIC INTERFACE A(E); END A.":                                          api.ErrPlain,
		"INTERFACE I = A(A) END I.":                                               api.ErrPlain,
		"MODULE M; IMPORT A; END M.":                                              api.ErrUnit,
		"MODULE M EXPORTS A; END M.":                                              api.ErrUnit,
		"UNSAFE INTERFACE A; END A. MODULE A; END A.":                             api.ErrSafe,
		"INTERFACE A; IMPORT A; END A.":                                           api.ErrCycle,
		"INTERFACE A; END A. INTERFACE B; END B. MODULE A EXPORTS B; END A.":      api.OK,
		"MODULE M; VAR x: INTEGER; VAR x: INTEGER; END M.":                        api.OK,
		"MODULE M; CONST x = y; END M.":                                           api.OK,
		"MODULE M; TYPE x = x; END M.":                                            api.OK,
		"INTERFACE I; TYPE T <: T; PROCEDURE p(); END I.":                         api.OK,
		"MODULE M; " + records(39) + "END M. MODULE N; " + records(39) + "END N.": api.OK,
		"": api.OK,
	} {
		l := parse(t, src)
		for _, i := range []int{0, len(l) - 1, len(l), -1, 1 << 40, -1 << 63} {
			e := want
			if want == api.OK && (i < 0 || i >= len(l)) {
				e = api.ErrArg
			}
			if got, f := world.Exports(l, i); f != e || f != api.OK && len(got) > 0 {
				t.Errorf("Exports(%d): %v, %v instead of %v, of %s", i, got, f, e, src)
			}
			if got, f := world.Needs(l, i); f != e || f != api.OK && len(got) > 0 {
				t.Errorf("Needs(%d): %v, %v instead of %v, of %s", i, got, f, e, src)
			}
		}
		if is, e := world.CheckOrder(l, nil); e != want || is != (len(l) == 0) {
			t.Errorf("CheckOrder: %v, %v instead of %v, of %s", is, e, want, src)
		}
	}
	bad := parse(t, "MODULE M; END M.")
	bad[0].Kind = 3
	many := make([]api.Unit, 31)
	for _, x := range []struct {
		l []api.Unit
		e api.Errno
	}{{bad, api.ErrTree}, {many, api.ErrLimit}} {
		_, e := world.Exports(x.l, -1)
		_, f := world.Needs(x.l, 0)
		_, h := world.CheckOrder(x.l, []string{"M"})
		expect(t, "the errors", []api.Errno{e, f, h}, []api.Errno{x.e, x.e, x.e})
	}
}

// F1: the order of units, group by group.
func TestOrder(t *testing.T) {
	for src, want := range map[string]string{
		"": "",
		"MODULE B; END B. MODULE A; END A. INTERFACE C; END C.":                                                "A B C.",
		"MODULE b; END b. MODULE A1; END A1. MODULE A; END A. INTERFACE A; END A. INTERFACE A0; END A0.":       "A. A A0. A1 b",
		"MODULE A; IMPORT Z; END A. INTERFACE Z; END Z.":                                                       "Z. A",
		"MODULE A; IMPORT Z; END A. INTERFACE Z; END Z. MODULE Z; END Z.":                                      "Z. Z A",
		"MODULE A; IMPORT Z; END A. INTERFACE Z; END Z. MODULE Y EXPORTS Z; END Y. MODULE X EXPORTS Z; END X.": "Z. X Y A",
		"MODULE A EXPORTS Z; END A. INTERFACE Z; END Z. MODULE Z; END Z.":                                      "Z. A Z",
		"INTERFACE A; IMPORT B; END A. INTERFACE B; IMPORT C; END B. INTERFACE C; END C. MODULE A; END A.":     "C. B. A. A",
		// Modules that lead to each other stand together, and have the least of their keys.
		"INTERFACE A; END A. INTERFACE B; END B. MODULE A; IMPORT B; END A. MODULE B; IMPORT A; END B. MODULE AA; END AA.":                                                                                               "A. AA B. A B",
		"INTERFACE P; END P. INTERFACE Q; END Q. INTERFACE R; END R. MODULE P; IMPORT Q; END P. MODULE Q; IMPORT R; END Q. MODULE R; IMPORT P; END R. MODULE A; IMPORT P; END A. MODULE Q1; END Q1. INTERFACE A; END A.": "A. P. Q. Q1 R. P Q R A",
		"INTERFACE D; END D. INTERFACE B; END B. MODULE Z EXPORTS B; IMPORT D; END Z. MODULE C EXPORTS D; IMPORT B; END C. MODULE E; END E. MODULE A; IMPORT D; END A.":                                                  "B. D. C Z A E",
		// A group behind another one, and a unit between.
		"INTERFACE A; END A. INTERFACE B; END B. INTERFACE X; END X. INTERFACE Y; END Y. MODULE A; IMPORT B; END A. MODULE B; IMPORT A, X; END B. MODULE X; IMPORT Y; END X. MODULE Y; IMPORT X; END Y. MODULE W; IMPORT X; END W.": "A. B. X. Y. X Y A B W",
		exampleMain + exampleBody + exampleA: "A. A Main",
	} {
		l := parse(t, src)
		w := worldOf(t, l)
		expectKeys(t, "the order of "+src, w.Order, api.OK, want)
		r := random(1)
		for range 5 {
			expectKeys(t, "the order of "+src, worldOf(t, shuffled(r, l)).Order, api.OK, want)
		}
		if is, e := world.CheckOrder(l, keys(want)); !is || e != api.OK {
			t.Errorf("CheckOrder of %s: %v, %v", want, is, e)
		}
	}
}

// F2: orders in which units can be run, and others.
func TestCheckOrder(t *testing.T) {
	const circle = "INTERFACE A; END A. INTERFACE B; END B. MODULE A; IMPORT B; END A. MODULE B; IMPORT A; END B. MODULE C; IMPORT A; END C."
	const chain = "INTERFACE A; END A. MODULE A; END A. INTERFACE B; IMPORT A; END B. MODULE M; IMPORT B; END M."
	for _, x := range []struct {
		src, order string
		want       bool
	}{
		{exampleA + exampleBody + exampleMain, "A. A Main", true},
		{exampleA + exampleBody + exampleMain, "A. Main A", false},
		{exampleA + exampleBody + exampleMain, "A A. Main", false},
		{exampleA + exampleBody + exampleMain, "A. A", false},
		{exampleA + exampleBody + exampleMain, "A. Main", false},
		{exampleA + exampleBody + exampleMain, "A. A Main Main", false},
		{exampleA + exampleBody + exampleMain, "A. A. A Main", false},
		{exampleA + exampleBody + exampleMain, "A. A Main X", false},
		{exampleA + exampleBody + exampleMain, "A. A X", false},
		{exampleA + exampleBody + exampleMain, "A. A Main.", false},
		{exampleA + exampleBody + exampleMain, "A. A main", false},
		{exampleA + exampleBody + exampleMain, "Main A. A", false},
		{exampleA + exampleBody + exampleMain, "", false},
		// Those that lead back to each other may stand in any order, and apart.
		{circle, "A. B. A B C", true}, {circle, "B. A. B A C", true}, {circle, "A. B. A C B", true}, {circle, "A. B. B C A", false}, {circle, "A. B. C A B", false},
		{circle, "A. A B. B C", false}, {circle, "B. A. A B C", true}, {circle, "B. A A. B C", false}, {circle, "B. B A. A C", false},
		// An interface needs no modules, nor does who imports it need what that one needs.
		{chain, "A. A B. M", true}, {chain, "A. B. A M", true}, {chain, "A. B. M A", true}, {chain, "B. A. A M", false}, {chain, "A. A M B.", false}, {chain, "A A. B. M", false},
		{"", "", true}, {"", "A", false}, {"MODULE M; END M.", "M", true}, {"MODULE M; END M.", "M.", false}, {"MODULE M; END M.", "M M", false},
		{"MODULE B; END B. MODULE A; END A.", "A B", true}, {"MODULE B; END B. MODULE A; END A.", "B A", true},
	} {
		if is, e := world.CheckOrder(parse(t, x.src), keys(x.order)); is != x.want || e != api.OK {
			t.Errorf("CheckOrder of %s: %v, %v, of %s", x.order, is, e, x.src)
		}
	}
	if is, e := world.CheckOrder(parse(t, "MODULE M; END M."), []string{""}); is || e != api.OK {
		t.Errorf("CheckOrder of an empty key: %v, %v", is, e)
	}
}

// P6.3: Order is accepted, and in it interfaces come ahead of all that import them.
func TestOrders(t *testing.T) {
	libraries(63, 150, func(g *generator, l []api.Unit) {
		order := worldOf(t, l).Order
		if is, e := world.CheckOrder(l, order); !is || e != api.OK {
			t.Fatalf("CheckOrder of %v: %v, %v, of\n%s", order, is, e, text(l))
		}
		for _, u := range l {
			for _, name := range u.Imports {
				if slices.Index(order, name+".") > slices.Index(order, world.Key(u)) {
					t.Fatalf("%s. comes behind %s in %v", name, world.Key(u), order)
				}
			}
		}
		other := shuffledKeys(g, order)
		if is, e := world.CheckOrder(l, other); is != isOrderByDefinition(l, other) || e != api.OK {
			t.Fatalf("CheckOrder of %v: %v, %v, of\n%s", other, is, e, text(l))
		}
	})
}

// shuffledKeys changes places of a few keys, or puts one in the place of another one.
func shuffledKeys(g *generator, order []string) []string {
	order = slices.Clone(order)
	for range g.IntN(3) {
		i, j := g.IntN(len(order)), g.IntN(len(order))
		order[i], order[j] = order[j], order[i]
	}
	if g.IntN(8) == 0 {
		order[g.IntN(len(order))] = order[0]
	}
	if g.IntN(8) == 0 {
		order = append(order, "X")
	}
	return order
}
