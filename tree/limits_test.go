package tree_test

import (
	"strings"
	"testing"

	"trestle/api"
	"trestle/tree"
)

// B1, B2, B3: as many as there may be of something, and one more, in a text.
func TestGreatestNumbers(t *testing.T) {
	repeat := func(s string, n int, sep string) string { return strings.TrimSuffix(strings.Repeat(s+sep, n), sep) }
	for name, c := range map[string]struct {
		most int
		src  func(n int) string
	}{
		"fields of records": {8, func(n int) string {
			return "INTERFACE A; TYPE T = REF RECORD " + repeat("x: T;", n, " ") + " END; END A."
		}},
		"fields of objects": {8, func(n int) string {
			return "INTERFACE A; TYPE T = ROOT OBJECT " + repeat("x: T;", n, " ") + " END; END A."
		}},
		"methods": {8, func(n int) string {
			return "INTERFACE A; TYPE T = ROOT OBJECT METHODS " + repeat("m() := p;", n, " ") + " END; END A."
		}},
		"overrides": {8, func(n int) string {
			return "INTERFACE A; TYPE T = ROOT OBJECT OVERRIDES " + repeat("m := p;", n, " ") + " END; END A."
		}},
		"parameters": {6, func(n int) string {
			return "INTERFACE A; PROCEDURE p(" + repeat("x: T", n, "; ") + "): T RAISES {E}; END A."
		}},
		"raises": {6, func(n int) string {
			return "INTERFACE A; PROCEDURE p(x: T): T RAISES {" + repeat("E", n, ", ") + "}; END A."
		}},
		"arguments": {6, func(n int) string { return "MODULE A; BEGIN f(" + repeat("x", n, ", ") + ") END A." }},
		"formals": {4, func(n int) string {
			return "GENERIC INTERFACE A(" + strings.Join(manyNames(n), ", ") + "); END A."
		}},
		"actuals": {4, func(n int) string { return "INTERFACE A = G(" + repeat("B", n, ", ") + ") END A." }},
		"imports": {10, func(n int) string { return "INTERFACE A; IMPORT " + strings.Join(manyNames(n), ", ") + "; END A." }},
		"imports in lines of their own": {10, func(n int) string {
			return "INTERFACE A; IMPORT " + strings.Join(manyNames(n), "; IMPORT ") + "; END A."
		}},
		"exports": {10, func(n int) string { return "MODULE A EXPORTS " + strings.Join(manyNames(n), ", ") + "; END A." }},
		"exports of an instance": {10, func(n int) string {
			return "MODULE A EXPORTS " + strings.Join(manyNames(n), ", ") + " = G(B) END A."
		}},
		"decls": {40, func(n int) string { return "INTERFACE A; " + repeat("EXCEPTION E;", n, " ") + " END A." }},
		"nodes of a constant": {400, func(n int) string {
			return "INTERFACE A; CONST c = " + strings.Repeat("-", n-1) + "1; END A."
		}},
		"nodes of a type": {400, func(n int) string {
			return "INTERFACE A; TYPE T = " + strings.Repeat("REF ", n-1) + "T; END A."
		}},
		"nodes of an initial value": {400, func(n int) string {
			return "INTERFACE A; VAR x: T := x" + strings.Repeat("^", n-1) + "; END A."
		}},
		"nodes of a signature": {400, func(n int) string {
			return "INTERFACE A; PROCEDURE p(): " + strings.Repeat("REF ", n-2) + "T; END A."
		}},
		"nodes of the block of a procedure": {400, func(n int) string {
			return "MODULE A; PROCEDURE p() = BEGIN " + repeat("RETURN", n-1, ";") + " END p; END A."
		}},
		"nodes of the body": {400, func(n int) string {
			return "MODULE A; BEGIN " + repeat("RETURN", n-1, ";") + " END A."
		}},
		"nodes of a revelation": {400, func(n int) string {
			return "MODULE A; REVEAL T <: " + strings.Repeat("REF ", n-1) + "T; END A."
		}},
	} {
		for _, n := range []int{c.most, c.most - 1} {
			l := mustParse(t, c.src(n))
			if e := tree.Check(l[0]); e != api.OK || !sameUnits(mustParse(t, mustPrint(t, l)), l) {
				t.Errorf("%d %s: error %d", n, name, e)
			}
		}
		for _, n := range []int{c.most + 1, 2 * c.most} {
			if l, f := tree.Parse(c.src(n)); f != (api.Fault{Err: api.ErrTree, At: 1}) || len(l) > 0 {
				t.Errorf("%d %s: %+v", n, name, f)
			}
		}
	}
}

// B1, B2: 30 units, and one more.
func TestGreatestNumberOfUnits(t *testing.T) {
	l := mustParse(t, strings.Repeat("INTERFACE A; END A. ", 30))
	src := mustPrint(t, l)
	if len(l) != 30 || !sameUnits(mustParse(t, src), l) {
		t.Errorf("30 units: %q", src)
	}
	l = append(l, l[0])
	if s, e := tree.Print(l); s != "" || e != api.ErrLimit {
		t.Errorf("Print of 31 units: %q, error %d", s, e)
	}
	l[3].Kind = 0
	if s, e := tree.Print(l); s != "" || e != api.ErrLimit {
		t.Errorf("Print of 31 units, one of which is none: %q, error %d", s, e)
	}
	if s, e := tree.Print(l[:30]); s != "" || e != api.ErrTree {
		t.Errorf("Print of 30 units, one of which is none: %q, error %d", s, e)
	}
	if l, f := tree.Parse(src + "\n" + src); len(l) > 0 || f != (api.Fault{Err: api.ErrLimit}) {
		t.Errorf("60 units: %+v", f)
	}
}

// B3, B4: trees of 400 nodes, of which some have many kids and some are far below the root.
func TestGreatTrees(t *testing.T) {
	for n, want := range map[int]bool{1: true, 399: true, 400: true, 401: false, 5000: false} {
		var deep, wide []api.Node
		deep = append(deep, api.Node{Kind: api.ExNil})
		for i := range n - 1 {
			deep = append(deep, api.Node{Kind: api.ExOp, Name: "NOT", Kids: []int{i}})
			wide = append(wide, api.Node{Kind: api.StReturn})
		}
		var kids []int
		for i := range wide {
			kids = append(kids, i)
		}
		wide = append(wide, api.Node{Kind: api.StSeq, Kids: kids})
		if tree.IsExpr(deep) != want || tree.IsBlock(wide) != want {
			t.Errorf("trees of %d nodes: %v, %v", n, tree.IsExpr(deep), tree.IsBlock(wide))
		}
		if _, e := tree.PrintExpr(deep); (e == api.OK) != want {
			t.Errorf("PrintExpr of %d nodes: error %d", n, e)
		}
	}
}

// R7: texts as deep as a source can be have a fault, or a result, and nothing else.
func TestDeepTexts(t *testing.T) {
	parens := strings.Repeat("(", 9990) + "x" + strings.Repeat(")", 9990)
	if l, f := tree.ParseExpr(parens); shown(l) != "(ExName x)" || f != (api.Fault{}) {
		t.Errorf("9990 parentheses: %d nodes, %+v", len(l), f)
	}
	for src, want := range map[string]api.Errno{
		strings.Repeat("(", 20000):              api.ErrParse,
		strings.Repeat("-", 19999) + "x":        api.ErrTree,
		strings.Repeat("NOT ", 4999) + "x":      api.ErrTree,
		strings.Repeat("x[", 10000):             api.ErrParse,
		strings.Repeat("NEW(", 5000):            api.ErrParse,
		"x" + strings.Repeat("^", 19999):        api.ErrTree,
		"x" + strings.Repeat("+x", 9999):        api.ErrTree,
		"f" + strings.Repeat("(f", 9998) + "()": api.ErrParse,
	} {
		if l, f := tree.ParseExpr(src); f.Err != want || len(l) > 0 {
			t.Errorf("ParseExpr(%.20q ..): %+v", src, f)
		}
	}
	deepIf := "MODULE A; BEGIN IF a THEN " + strings.Repeat("ELSIF a THEN ", 1500) + "END END A."
	deepLock := "MODULE A; BEGIN " + strings.Repeat("LOCK a DO ", 1000) + strings.Repeat("END ", 1000) + "END A."
	deepSig := "INTERFACE A; TYPE T = " + strings.Repeat("T OBJECT METHODS m(): ", 500) + "T" + strings.Repeat("; END", 500) + "; END A."
	for _, src := range []string{deepIf, deepLock, deepSig} {
		if l, f := tree.Parse(src); f != (api.Fault{Err: api.ErrTree, At: 1}) || len(l) > 0 {
			t.Errorf("Parse(%.40q ..): %+v", src, f)
		}
	}
}
