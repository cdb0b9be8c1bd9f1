package tree_test

import (
	"slices"
	"strconv"
	"strings"
	"testing"

	"trestle/api"
	"trestle/tree"
)

// plainUnit, genericUnit, instanceUnit are units that are well-formed, of a kind.

func plainUnit(kind uint8) api.Unit {
	u := api.Unit{Kind: kind, Name: "A", Imports: []string{"B"}, Decls: []api.Decl{{Kind: api.DcExcept, Name: "E"}}}
	if kind == api.UnModule {
		u.Body = emptyBlock()
	}
	return u
}

func genericUnit(kind uint8) api.Unit {
	u := plainUnit(kind)
	u.Generic = true
	u.Formals = []string{"F"}
	return u
}

func instanceUnit(kind uint8) api.Unit {
	return api.Unit{Kind: kind, Name: "A", Of: "G", Actuals: []string{"B"}}
}

func emptyBlock() []api.Node { return []api.Node{{Kind: api.StSeq}} }

// manyNames returns so many names.
func manyNames(n int) []string {
	var l []string
	for i := range n {
		l = append(l, "N"+strconv.Itoa(i))
	}
	return l
}

// change is what is done to a unit, and for which units, of plain, generic and instance interfaces and modules, the outcome is well-formed.
type change struct {
	name string
	to   func(u *api.Unit)
	good string
}

// B3: each condition of a unit, for all sorts of units: the letters of those that stay well-formed are p, g, i for interfaces, and P, G, I for modules.
func TestCheckUnits(t *testing.T) {
	sorts := map[string]func() api.Unit{
		"p": func() api.Unit { return plainUnit(1) }, "g": func() api.Unit { return genericUnit(1) }, "i": func() api.Unit { return instanceUnit(1) },
		"P": func() api.Unit { return plainUnit(2) }, "G": func() api.Unit { return genericUnit(2) }, "I": func() api.Unit { return instanceUnit(2) },
	}
	for _, c := range []change{
		{"nothing", func(u *api.Unit) {}, "pgiPGI"},
		{"no kind", func(u *api.Unit) { u.Kind = 0 }, ""},
		{"another kind", func(u *api.Unit) { u.Kind = 3 }, ""},
		{"the other kind", func(u *api.Unit) { u.Kind = 3 - u.Kind }, "iI"},
		{"unsafe", func(u *api.Unit) { u.Unsafe = true }, "pgiPGI"},
		{"no name", func(u *api.Unit) { u.Name = "" }, ""},
		{"a word as name", func(u *api.Unit) { u.Name = "END" }, ""},
		{"a long name", func(u *api.Unit) { u.Name = "thirteenBytes" }, ""},
		{"12 letters", func(u *api.Unit) { u.Name = "twelveLetter" }, "pgiPGI"},
		{"generic", func(u *api.Unit) { u.Generic = true }, "gG"},
		{"not generic", func(u *api.Unit) { u.Generic = false }, "piPI"},
		{"no formals", func(u *api.Unit) { u.Formals = nil }, "piPI"},
		{"empty formals", func(u *api.Unit) { u.Formals = []string{} }, "piPI"},
		{"formals", func(u *api.Unit) { u.Formals = []string{"X"} }, "gG"},
		{"4 formals", func(u *api.Unit) { u.Formals = manyNames(4) }, "gG"},
		{"5 formals", func(u *api.Unit) { u.Formals = manyNames(5) }, ""},
		{"a formal twice", func(u *api.Unit) { u.Formals = []string{"X", "Y", "X"} }, ""},
		{"a formal that is no name", func(u *api.Unit) { u.Formals = []string{"X", "ROOT"} }, ""},
		{"no Of", func(u *api.Unit) { u.Of = "" }, "pgPG"},
		{"an Of", func(u *api.Unit) { u.Of = "H" }, "iI"},
		{"an Of that is no name", func(u *api.Unit) { u.Of = "1" }, ""},
		{"an Of that is a word", func(u *api.Unit) { u.Of = "TYPE" }, ""},
		{"no actuals", func(u *api.Unit) { u.Actuals = nil }, "pgPG"},
		{"an actual twice", func(u *api.Unit) { u.Actuals = []string{"B", "B"} }, "iI"},
		{"4 actuals", func(u *api.Unit) { u.Actuals = manyNames(4) }, "iI"},
		{"5 actuals", func(u *api.Unit) { u.Actuals = manyNames(5) }, ""},
		{"an actual that is no name", func(u *api.Unit) { u.Actuals = []string{""} }, ""},
		{"exports", func(u *api.Unit) { u.Exports = []string{"X"} }, "PI"},
		{"10 exports", func(u *api.Unit) { u.Exports = manyNames(10) }, "PI"},
		{"11 exports", func(u *api.Unit) { u.Exports = manyNames(11) }, ""},
		{"an export twice", func(u *api.Unit) { u.Exports = []string{"X", "X"} }, ""},
		{"an export that is no name", func(u *api.Unit) { u.Exports = []string{"A.B"} }, ""},
		{"no imports", func(u *api.Unit) { u.Imports = nil }, "pgiPGI"},
		{"imports", func(u *api.Unit) { u.Imports = []string{"X"} }, "pgPG"},
		{"10 imports", func(u *api.Unit) { u.Imports = manyNames(10) }, "pgPG"},
		{"11 imports", func(u *api.Unit) { u.Imports = manyNames(11) }, ""},
		{"an import twice", func(u *api.Unit) { u.Imports = append(manyNames(3), "N0") }, ""},
		{"an import that is no name", func(u *api.Unit) { u.Imports = []string{"X", ""} }, ""},
		{"one name in all lists", func(u *api.Unit) { u.Imports, u.Exports = []string{"A"}, []string{"A"} }, "P"},
		{"a body", func(u *api.Unit) { u.Body = emptyBlock() }, "PG"},
		{"no body", func(u *api.Unit) { u.Body = nil }, "pgiI"},
		{"a body that is no block", func(u *api.Unit) { u.Body = []api.Node{{Kind: api.StReturn}} }, ""},
		{"no decls", func(u *api.Unit) { u.Decls = nil }, "pgiPGI"},
		{"40 decls", func(u *api.Unit) { u.Decls = slices.Repeat(u.Decls, 40) }, "pgiPGI"},
		{"41 decls", func(u *api.Unit) { u.Decls = slices.Repeat(u.Decls, 41) }, "iI"},
		{"a decl", func(u *api.Unit) { u.Decls = []api.Decl{{Kind: api.DcExcept, Name: "E"}} }, "pgPG"},
		{"a decl that is none", func(u *api.Unit) { u.Decls = append(u.Decls, api.Decl{}) }, ""},
	} {
		for sort, make := range sorts {
			u := make()
			c.to(&u)
			want := api.ErrTree
			if strings.Contains(c.good, sort) {
				want = api.OK
			}
			if e := tree.Check(u); e != want {
				t.Errorf("%s, to %s: error %d; expected %d", c.name, sort, e, want)
			}
			compareErrors(t, u, want)
		}
	}
}

// compareErrors checks that all that takes a unit has the same error for it, and nothing beside it.
func compareErrors(t *testing.T, u api.Unit, want api.Errno) {
	t.Helper()
	s, pe := tree.Print([]api.Unit{plainUnit(1), u})
	q, qe := tree.Qualifiers(u)
	r, re := tree.Renamed(u, nil, nil)
	_, de := tree.Declared(u, "nowhere")
	if want == api.OK {
		if pe != api.OK || qe != api.OK || re != api.OK || de != api.ErrNone || !sameUnit(r, u) {
			t.Errorf("errors %d, %d, %d, %d for %+v", pe, qe, re, de, u)
		}
		return
	}
	if pe != want || qe != want || re != want || de != want || s != "" || len(q) > 0 || !sameUnit(r, api.Unit{}) {
		t.Errorf("errors %d, %d, %d, %d beside %q, %q, %+v for %+v", pe, qe, re, de, s, q, r, u)
	}
}

// Trees for declarations.
func anExpr() []api.Node { return []api.Node{{Kind: api.ExNil}} }

func aType() []api.Node { return []api.Node{{Kind: api.TyName, Name: "T"}} }

func aSig() []api.Node { return []api.Node{{Kind: api.NdSig}} }

func aPlain(word string) []api.Node { return []api.Node{{Kind: api.TyPlain, Name: word}} }

// B3: each row of the table of declarations, in interfaces (i) and modules (m).
func TestCheckDecls(t *testing.T) {
	rows := []struct {
		good string
		d    api.Decl
	}{
		{"im", api.Decl{Kind: api.DcConst, Name: "c", Nodes: anExpr()}},
		{"", api.Decl{Kind: api.DcConst, Name: "c"}},
		{"", api.Decl{Kind: api.DcConst, Name: "c", Nodes: aType()}},
		{"", api.Decl{Kind: api.DcConst, Name: "c", Nodes: anExpr(), Body: anExpr()}},
		{"im", api.Decl{Kind: api.DcType, Name: "T", Nodes: aType()}},
		{"", api.Decl{Kind: api.DcType, Name: "T"}},
		{"", api.Decl{Kind: api.DcType, Name: "T", Nodes: anExpr()}},
		{"", api.Decl{Kind: api.DcType, Name: "T", Nodes: aType(), Body: anExpr()}},
		{"i", api.Decl{Kind: api.DcOpaque, Name: "T", Nodes: aType()}},
		{"i", api.Decl{Kind: api.DcOpaque, Name: "T", Nodes: aPlain("ROOT")}},
		{"i", api.Decl{Kind: api.DcOpaque, Name: "T", Nodes: aPlain("REFANY")}},
		{"i", api.Decl{Kind: api.DcOpaque, Name: "T", Nodes: aPlain("MUTEX")}},
		{"", api.Decl{Kind: api.DcOpaque, Name: "T", Nodes: aPlain("NULL")}},
		{"", api.Decl{Kind: api.DcOpaque, Name: "T", Nodes: aPlain("CONDITION")}},
		{"", api.Decl{Kind: api.DcOpaque, Name: "T", Nodes: append(aType(), api.Node{Kind: api.TyRef, Kids: []int{0}})}},
		{"", api.Decl{Kind: api.DcOpaque, Name: "T"}},
		{"", api.Decl{Kind: api.DcOpaque, Name: "T", Nodes: aType(), Body: aType()}},
		{"im", api.Decl{Kind: api.DcVar, Name: "x", Nodes: aType()}},
		{"im", api.Decl{Kind: api.DcVar, Name: "x", Nodes: aType(), Body: anExpr()}},
		{"", api.Decl{Kind: api.DcVar, Name: "x", Body: anExpr()}},
		{"", api.Decl{Kind: api.DcVar, Name: "x", Nodes: anExpr()}},
		{"", api.Decl{Kind: api.DcVar, Name: "x", Nodes: aType(), Body: aType()}},
		{"", api.Decl{Kind: api.DcVar, Name: "x", Nodes: aType(), Body: emptyBlock()}},
		{"im", api.Decl{Kind: api.DcExcept, Name: "E"}},
		{"im", api.Decl{Kind: api.DcExcept, Name: "E", Nodes: []api.Node{}, Body: []api.Node{}}},
		{"", api.Decl{Kind: api.DcExcept, Name: "E", Nodes: aType()}},
		{"", api.Decl{Kind: api.DcExcept, Name: "E", Body: emptyBlock()}},
		{"i", api.Decl{Kind: api.DcProc, Name: "p", Nodes: aSig()}},
		{"m", api.Decl{Kind: api.DcProc, Name: "p", Nodes: aSig(), Body: emptyBlock()}},
		{"", api.Decl{Kind: api.DcProc, Name: "p", Body: emptyBlock()}},
		{"", api.Decl{Kind: api.DcProc, Name: "p"}},
		{"", api.Decl{Kind: api.DcProc, Name: "p", Nodes: aType()}},
		{"", api.Decl{Kind: api.DcProc, Name: "p", Nodes: aSig(), Body: anExpr()}},
		{"im", api.Decl{Kind: api.DcReveal, Name: "T", Nodes: aType()}},
		{"im", api.Decl{Kind: api.DcReveal, Unit: "B", Name: "T", N: 1, Nodes: aType()}},
		{"im", api.Decl{Kind: api.DcReveal, Unit: "Z", Name: "T", Nodes: aType()}},
		{"", api.Decl{Kind: api.DcReveal, Unit: "END", Name: "T", Nodes: aType()}},
		{"", api.Decl{Kind: api.DcReveal, Unit: "B", Nodes: aType()}},
		{"", api.Decl{Kind: api.DcReveal, Name: "T", N: 2, Nodes: aType()}},
		{"", api.Decl{Kind: api.DcReveal, Name: "T", N: -1, Nodes: aType()}},
		{"", api.Decl{Kind: api.DcReveal, Name: "T"}},
		{"", api.Decl{Kind: api.DcReveal, Name: "T", Nodes: anExpr()}},
		{"", api.Decl{Kind: api.DcReveal, Name: "T", Nodes: aType(), Body: aType()}},
		{"", api.Decl{Kind: 8, Name: "T", Nodes: aType()}},
	}
	for _, row := range rows {
		compareDecl(t, row.d, row.good)
		for _, spoil := range []func(d *api.Decl){
			func(d *api.Decl) { d.Kind = 0 },
			func(d *api.Decl) { d.Name = "" },
			func(d *api.Decl) { d.Name = "ALERTED" },
			func(d *api.Decl) { d.Name = "a b" },
			func(d *api.Decl) {
				d.Nodes = append(slices.Clone(d.Nodes), d.Nodes...)
				d.Body = append(d.Nodes, d.Body...)
			},
		} {
			d := row.d
			spoil(&d)
			if len(row.d.Nodes) > 0 || d.Name != row.d.Name || d.Kind == 0 {
				compareDecl(t, d, "")
			}
		}
		if row.d.Kind != api.DcReveal {
			d := row.d
			d.N = 1
			compareDecl(t, d, "")
			d = row.d
			d.Unit = "B"
			compareDecl(t, d, "")
		}
	}
}

func compareDecl(t *testing.T, d api.Decl, good string) {
	t.Helper()
	for letter, units := range map[string][]api.Unit{"i": {plainUnit(1), genericUnit(1)}, "m": {plainUnit(2), genericUnit(2)}} {
		for _, u := range units {
			u.Decls = []api.Decl{{Kind: api.DcExcept, Name: "E"}, d}
			want := api.ErrTree
			if strings.Contains(good, letter) {
				want = api.OK
			}
			if e := tree.Check(u); e != want {
				t.Errorf("%+v in a unit of the kind %d: error %d; expected %d", d, u.Kind, e, want)
			}
		}
	}
	for _, kind := range []uint8{1, 2} {
		u := instanceUnit(kind)
		u.Decls = []api.Decl{d}
		if e := tree.Check(u); e != api.ErrTree {
			t.Errorf("%+v in an instance: error %d", d, e)
		}
	}
}

// B3: nodes that are no tree at all.
func TestNoTrees(t *testing.T) {
	none := api.Node{Kind: api.ExNil}
	for name, l := range map[string][]api.Node{
		"nothing":            nil,
		"two roots":          {none, none},
		"a kid behind":       {{Kind: api.ExDeref, Kids: []int{1}}, none},
		"itself as a kid":    {{Kind: api.ExDeref, Kids: []int{0}}},
		"a kid ahead of all": {none, {Kind: api.ExDeref, Kids: []int{-1}}},
		"a kid too far":      {none, {Kind: api.ExDeref, Kids: []int{1 << 62}}},
		"a kid of two":       {none, {Kind: api.ExDeref, Kids: []int{0}}, {Kind: api.ExIndex, Kids: []int{0, 1}}},
		"a kid twice":        {none, {Kind: api.ExIndex, Kids: []int{0, 0}}},
		"descending kids":    {none, none, {Kind: api.ExIndex, Kids: []int{1, 0}}},
		"kids apart":         {none, none, {Kind: api.ExDeref, Kids: []int{0}}, {Kind: api.ExIndex, Kids: []int{1, 2}}},
		"a kid of nobody":    {none, none, {Kind: api.ExDeref, Kids: []int{1}}},
		"no preorder":        {none, none, {Kind: api.ExDeref, Kids: []int{1}}, {Kind: api.ExIndex, Kids: []int{2, 0}}},
		"a kid of a leaf":    {none, {Kind: api.ExInt, Kids: []int{0}}},
		"no kind":            {{}},
		"no kind inside":     {{}, {Kind: api.ExDeref, Kids: []int{0}}},
		"a great kind":       {{Kind: 255}},
	} {
		if tree.IsExpr(l) || tree.IsType(l) || tree.IsBlock(l) {
			t.Errorf("%s is a tree: %+v", name, l)
		}
		for _, print := range []func([]api.Node) (string, api.Errno){tree.PrintExpr, tree.PrintType} {
			if s, e := print(l); s != "" || e != api.ErrTree {
				t.Errorf("%s is printed: %q, error %d", name, s, e)
			}
		}
	}
	// Trees, but of something else.
	for _, l := range [][]api.Node{aSig(), emptyBlock(), {{Kind: api.StReturn}}, {{Kind: api.NdRaise, Name: "E"}}, append(emptyBlock(), api.Node{Kind: api.NdWhen, Kids: []int{0}})} {
		if tree.IsExpr(l) || tree.IsType(l) || tree.IsBlock(l) != (l[0].Kind == api.StSeq && len(l) == 1) {
			t.Errorf("a tree of another sort: %+v", l)
		}
	}
	if tree.IsType(anExpr()) || tree.IsExpr(aType()) || !tree.IsType(aType()) || !tree.IsExpr(anExpr()) {
		t.Errorf("types and expressions are not told apart")
	}
}
