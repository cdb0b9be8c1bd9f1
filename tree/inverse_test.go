package tree_test

import (
	"testing"

	"trestle/api"
	"trestle/tree"
)

// withinSource tells texts that the scanner takes from such as are too long.
func withinSource(src string) bool { return len(src) <= api.MaxSource }

// P2.2: Parse of Print is the units.
func TestParseOfPrint(t *testing.T) {
	g := newGenerator(1)
	for range 2500 {
		l := g.units(4, 40)
		src := mustPrint(t, l)
		if !withinSource(src) {
			continue
		}
		if again := mustParse(t, src); !sameUnits(again, l) {
			t.Fatalf("units that are not read as they were printed:\n%s", src)
		}
	}
}

// P2.2, P2.3: a text with any layout has the same units as the canonical text of them, which is printed again as it is.
func TestLayoutChangesNothing(t *testing.T) {
	g := newGenerator(2)
	for range 2500 {
		l := g.units(3, 40)
		src := looseText(g, l)
		if !withinSource(src) {
			continue
		}
		read := mustParse(t, src)
		if !sameUnits(read, l) {
			t.Fatalf("units that are not read as they were written:\n%s\nbut as\n%s", src, mustPrint(t, read))
		}
		canonical := mustPrint(t, read)
		again := mustParse(t, canonical)
		if !sameUnits(again, l) || mustPrint(t, again) != canonical {
			t.Fatalf("not canonical:\n%s\nof\n%s", canonical, src)
		}
	}
}

// P2.6: what is read alone is printed as it was read again.
func TestPartsAlone(t *testing.T) {
	g := newGenerator(3)
	for range 2500 {
		compareType(t, g.tree(g.IntN(60), g.typ))
		compareExpr(t, g.tree(g.IntN(60), g.expr))
	}
}

func compareType(t *testing.T, l []api.Node) {
	t.Helper()
	s, e := tree.PrintType(l)
	if again, f := tree.ParseType(s); e != api.OK || f != (api.Fault{}) || !sameNodes(again, l) {
		t.Fatalf("the type %s: %q, error %d; read again: %s, %+v", shown(l), s, e, shown(again), f)
	}
}

func compareExpr(t *testing.T, l []api.Node) {
	t.Helper()
	s, e := tree.PrintExpr(l)
	if again, f := tree.ParseExpr(s); e != api.OK || f != (api.Fault{}) || !sameNodes(again, l) {
		t.Fatalf("the expression %s: %q, error %d; read again: %s, %+v", shown(l), s, e, shown(again), f)
	}
}
