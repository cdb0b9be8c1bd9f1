package tree_test

import (
	"slices"
	"testing"

	"trestle/api"
	"trestle/tree"
)

// everywhere has a qualifier in each place where one can stand.
const everywhere = `MODULE M EXPORTS X; IMPORT N1, N2, N3, N4, N5, N6, N7, N8, N9, N10;
CONST c = N1.a + b.N0;
TYPE T = N2.T OBJECT x: N3.T; METHODS m(a: N4.T): REF N5.T RAISES {N6.E} := N7.p; OVERRIDES o := N8.p; END;
VAR v: INTEGER := N9.v;
PROCEDURE p() RAISES {N10.E} = BEGIN RAISE O1.E END p;
REVEAL O2.T = O3.T;
BEGIN TRY EXCEPT | O4.E => END; TYPECASE x OF | O5.T (N0) => ELSE X.f() END END M.`

// B5: the qualifiers, of all places, in ascending order and each once.
func TestQualifiers(t *testing.T) {
	for src, want := range map[string][]string{
		"INTERFACE A; IMPORT B; END A.":                                                nil,
		"MODULE A EXPORTS B; IMPORT C; BEGIN PUT x.y END A.":                           nil,
		"GENERIC INTERFACE A(B); TYPE T = D; END A.":                                   nil,
		"INTERFACE I = G(A) END I.":                                                    nil,
		"INTERFACE A; TYPE T = C.T; TYPE U = B.T; TYPE V = C.U; END A.":                {"B", "C"},
		"INTERFACE A; IMPORT a; TYPE T = b.T; CONST c = a.x; REVEAL B.T = A.T; END A.": {"A", "B", "a", "b"},
		"INTERFACE A; TYPE T = A10.T; TYPE U = A1.T; TYPE V = A2.T; END A.":            {"A1", "A10", "A2"},
		everywhere: {"N1", "N10", "N2", "N3", "N4", "N5", "N6", "N7", "N8", "N9", "O1", "O2", "O3", "O4", "O5", "X"},
	} {
		if got, e := tree.Qualifiers(mustParse(t, src)[0]); !slices.Equal(got, want) || e != api.OK {
			t.Errorf("Qualifiers of %q: %q, error %d", src, got, e)
		}
	}
}

// B5: all qualifiers are renamed at once, and nothing else is.
func TestRenamed(t *testing.T) {
	const src = "MODULE A EXPORTS D; IMPORT A, B, C; CONST c = A.A + A; TYPE T = B.A; REVEAL C.B = A; BEGIN RAISE A.C; TRY EXCEPT | B.B => PUT D.x END END A."
	for _, c := range []struct {
		from, to []string
		want     string
	}{
		{nil, []string{}, src},
		{[]string{"E"}, []string{"A"}, src},
		{[]string{"A"}, []string{"A"}, src},
		{[]string{"A"}, []string{"E"}, "MODULE A EXPORTS D; IMPORT A, B, C; CONST c = E.A + A; TYPE T = B.A; REVEAL C.B = A; BEGIN RAISE E.C; TRY EXCEPT | B.B => PUT D.x END END A."},
		{[]string{"A", "B"}, []string{"B", "A"}, "MODULE A EXPORTS D; IMPORT A, B, C; CONST c = B.A + A; TYPE T = A.A; REVEAL C.B = A; BEGIN RAISE B.C; TRY EXCEPT | A.B => PUT D.x END END A."},
		{[]string{"A", "B", "C", "D"}, []string{"B", "C", "D", "D"}, "MODULE A EXPORTS D; IMPORT A, B, C; CONST c = B.A + A; TYPE T = C.A; REVEAL D.B = A; BEGIN RAISE B.C; TRY EXCEPT | C.B => PUT D.x END END A."},
		{[]string{"A", "A", "B", "A"}, []string{"C", "B", "A", "D"}, "MODULE A EXPORTS D; IMPORT A, B, C; CONST c = C.A + A; TYPE T = A.A; REVEAL C.B = A; BEGIN RAISE C.C; TRY EXCEPT | A.B => PUT D.x END END A."},
	} {
		u := mustParse(t, src)[0]
		got, e := tree.Renamed(u, c.from, c.to)
		if e != api.OK || !sameNames(got, mustParse(t, src)[0]) || shownUnit(got) != shownUnit(withImport(t, c.want, "E")) {
			t.Errorf("Renamed from %q to %q: error %d,\n%s", c.from, c.to, e, shownUnit(got))
		}
		if !sameUnit(u, mustParse(t, src)[0]) {
			t.Errorf("Renamed changes its argument: %+v", u)
		}
	}
}

// withImport reads a unit as one that imports another unit, too.
func withImport(t *testing.T, src, name string) api.Unit {
	return mustParse(t, src[:len("MODULE A EXPORTS D; IMPORT ")]+name+", "+src[len("MODULE A EXPORTS D; IMPORT "):])[0]
}

// sameNames compares the names of units and of their declarations.
func sameNames(a, b api.Unit) bool {
	return a.Name == b.Name && slices.Equal(a.Imports, b.Imports) && slices.Equal(a.Exports, b.Exports) &&
		slices.EqualFunc(a.Decls, b.Decls, func(c, d api.Decl) bool { return c.Name == d.Name && c.Kind == d.Kind })
}

// shownUnit returns the trees of a unit as a text.
func shownUnit(u api.Unit) string {
	s := ""
	for _, d := range u.Decls {
		s += d.Unit + "." + d.Name + ": " + shown(d.Nodes) + " " + shown(d.Body) + "\n"
	}
	return s + shown(u.Body)
}

// B5: faults of names.
func TestRenamedFaults(t *testing.T) {
	u := mustParse(t, "INTERFACE A; TYPE T = B.T; END A.")[0]
	for _, c := range []struct{ from, to []string }{
		{[]string{"B"}, nil}, {nil, []string{"B"}}, {[]string{"B", "C"}, []string{"D"}},
		{[]string{""}, []string{"D"}}, {[]string{"B"}, []string{""}}, {[]string{"B"}, []string{"END"}}, {[]string{"B.C"}, []string{"D"}},
		{[]string{"B", "1"}, []string{"C", "D"}}, {[]string{"B", "C"}, []string{"C", "thirteenBytes"}},
	} {
		if got, e := tree.Renamed(u, c.from, c.to); e != api.ErrArg || !sameUnit(got, api.Unit{}) {
			t.Errorf("Renamed from %q to %q: %+v, error %d", c.from, c.to, got, e)
		}
		if got, e := tree.Renamed(api.Unit{}, c.from, c.to); e != api.ErrTree || !sameUnit(got, api.Unit{}) {
			t.Errorf("Renamed of no unit, from %q to %q: %+v, error %d", c.from, c.to, got, e)
		}
	}
}

// P2.5: renaming to what was no qualifier and back; the qualifiers go along.
func TestRenamedAndBack(t *testing.T) {
	g := newGenerator(51)
	for range 1500 {
		u := g.unit(40)
		before, _ := tree.Qualifiers(u)
		from, to := pick(g, "A", "B", "C", "E"), pick(g, "A", "New")
		if slices.Contains(before, to) {
			continue
		}
		renamed, e := tree.Renamed(u, []string{from}, []string{to})
		after, _ := tree.Qualifiers(renamed)
		back, be := tree.Renamed(renamed, []string{to}, []string{from})
		if e != api.OK || be != api.OK || !sameUnit(back, u) {
			t.Fatalf("from %s to %s and back: errors %d, %d, %+v of %+v", from, to, e, be, back, u)
		}
		if at := slices.Index(before, from); at >= 0 {
			before[at] = to
		}
		slices.Sort(before)
		if !slices.Equal(before, after) {
			t.Fatalf("from %s to %s: the qualifiers %q of %+v", from, to, after, renamed)
		}
	}
}

// B6: the first declaration with a name.
func TestDeclared(t *testing.T) {
	u := mustParse(t, "INTERFACE A; REVEAL T = U; CONST c = 1; TYPE T = U; TYPE O <: ROOT; VAR v: T; EXCEPTION E; PROCEDURE p(); REVEAL B.R = T; VAR T: U; EXCEPTION c; END A.")[0]
	for name, want := range map[string]int{"c": 1, "T": 2, "O": 3, "v": 4, "E": 5, "p": 6} {
		if i, e := tree.Declared(u, name); i != want || e != api.OK {
			t.Errorf("Declared(%s): %d, error %d", name, i, e)
		}
	}
	for _, name := range []string{"R", "U", "A", "B", "", "t", "END"} {
		if i, e := tree.Declared(u, name); i != 0 || e != api.ErrNone {
			t.Errorf("Declared(%s): %d, error %d", name, i, e)
		}
	}
	if i, e := tree.Declared(instanceUnit(1), "c"); i != 0 || e != api.ErrNone {
		t.Errorf("Declared of an instance: %d, error %d", i, e)
	}
	u.Decls[9].Name = ""
	if i, e := tree.Declared(u, "c"); i != 0 || e != api.ErrTree {
		t.Errorf("Declared of no unit: %d, error %d", i, e)
	}
}
