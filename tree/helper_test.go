package tree_test

import (
	"slices"
	"strconv"
	"strings"
	"testing"

	"trestle/api"
	"trestle/tree"
)

// mustParse returns the units of a source that has no fault.
func mustParse(t *testing.T, src string) []api.Unit {
	t.Helper()
	l, f := tree.Parse(src)
	if f != (api.Fault{}) {
		t.Fatalf("Parse: %+v, of\n%s", f, src)
	}
	return l
}

// mustPrint returns the text of units that are well-formed.
func mustPrint(t *testing.T, l []api.Unit) string {
	t.Helper()
	s, e := tree.Print(l)
	if e != api.OK {
		t.Fatalf("Print: error %d, of %+v", e, l)
	}
	return s
}

// sameUnits, sameUnit and sameNodes compare what may have nil slices with what may have empty ones in their places.
func sameUnits(a, b []api.Unit) bool { return slices.EqualFunc(a, b, sameUnit) }

func sameUnit(a, b api.Unit) bool {
	return a.Kind == b.Kind && a.Name == b.Name && a.Unsafe == b.Unsafe && a.Generic == b.Generic && a.Of == b.Of &&
		slices.Equal(a.Formals, b.Formals) && slices.Equal(a.Actuals, b.Actuals) && slices.Equal(a.Exports, b.Exports) && slices.Equal(a.Imports, b.Imports) &&
		slices.EqualFunc(a.Decls, b.Decls, sameDecl) && sameNodes(a.Body, b.Body)
}

func sameDecl(a, b api.Decl) bool {
	return a.Kind == b.Kind && a.Unit == b.Unit && a.Name == b.Name && a.N == b.N && sameNodes(a.Nodes, b.Nodes) && sameNodes(a.Body, b.Body)
}

func sameNodes(a, b []api.Node) bool {
	return slices.EqualFunc(a, b, func(m, n api.Node) bool {
		return m.Kind == n.Kind && m.Name == n.Name && m.Unit == n.Unit && m.Var == n.Var && m.N == n.N && m.Type == n.Type && slices.Equal(m.Kids, n.Kids)
	})
}

var kindNames = map[uint8]string{
	1: "TyName", 2: "TyPlain", 3: "TyRange", 4: "TyRef", 5: "TyRecord", 6: "TyArray", 7: "TyObject", 8: "NdField", 9: "NdMethod", 10: "NdOver",
	11: "NdSig", 12: "NdParam", 13: "NdRaise", 20: "ExInt", 21: "ExNil", 22: "ExBool", 23: "ExName", 24: "ExField", 25: "ExIndex", 26: "ExDeref",
	27: "ExCall", 28: "ExNew", 29: "ExOp", 30: "ExNarrow", 31: "ExNumber", 32: "ExLoop", 33: "ExFork", 40: "StSeq", 41: "StVar", 42: "StSet",
	43: "StDo", 44: "StIf", 45: "StWhile", 46: "StReturn", 47: "StRaise", 48: "StTry", 49: "NdWhen", 50: "StFinally", 51: "StLock", 52: "StCase",
	53: "NdArm", 54: "StPut", 55: "StJoin", 56: "StWait", 57: "StSignal", 58: "StAll", 59: "StAlert",
}

// shown returns a tree as a text: each node in brackets, with its kind, its fields that are not zero, and its kids.
func shown(l []api.Node) string {
	if len(l) == 0 {
		return ""
	}
	return shownAt(l, len(l)-1)
}

func shownAt(l []api.Node, at int) string {
	n := l[at]
	parts := []string{kindNames[n.Kind]}
	if n.Unit != "" {
		parts = append(parts, n.Unit+"."+n.Name)
	} else if n.Name != "" {
		parts = append(parts, n.Name)
	}
	if n.Var != "" {
		parts = append(parts, "var="+n.Var)
	}
	if n.N != 0 {
		parts = append(parts, strconv.Itoa(n.N))
	}
	for _, kid := range n.Kids {
		parts = append(parts, shownAt(l, kid))
	}
	return "(" + strings.Join(parts, " ") + ")"
}
