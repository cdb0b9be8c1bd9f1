package world_test

import (
	"slices"
	"strings"
	"testing"

	"trestle/api"
	"trestle/tree"
	"trestle/types"
	"trestle/world"
)

// F3: the world of a view is what Build returns; so are the faults.
func TestWorldOfView(t *testing.T) {
	anyLibraries(31, 200, func(_ *generator, l []api.Unit) {
		w, f := world.Build(l)
		v, h := world.In(l)
		if f != h || (v == nil) != (f.Err != api.OK) {
			t.Fatalf("Build has %+v, In %+v", f, h)
		}
		if v == nil {
			return
		}
		if got, e := v.World(); e != api.OK || shown(got) != shown(w) {
			t.Fatalf("World is %s, %v, not %s", shown(got), e, shown(w))
		}
	})
	v := open(t, "")
	if w, e := v.World(); e != api.OK || shown(w) != shown(api.World{}) {
		t.Errorf("World of no units: %s, %v", shown(w), e)
	}
}

// F4: what names mean, in the chapter's example.
func TestMean(t *testing.T) {
	v := open(t, exampleA+exampleBody+exampleMain)
	n := api.Mean{Kind: api.DcConst, Name: "A.N", N: 6}
	for _, x := range []struct {
		unit            int
		qualifier, name string
		want            api.Mean
		e               api.Errno
	}{
		{2, "A", "N", n, api.OK}, {1, "", "N", n, api.OK}, {1, "A", "N", n, api.OK}, {0, "", "N", n, api.OK},
		{0, "A", "N", api.Mean{}, api.ErrNone}, {2, "", "N", api.Mean{}, api.ErrNone}, {2, "A", "R", api.Mean{}, api.ErrNone}, {2, "", "R", api.Mean{}, api.ErrNone},
		{1, "", "R", api.Mean{Kind: api.DcType, Name: "A.R", Type: 6}, api.OK}, {0, "", "R", api.Mean{}, api.ErrNone}, {1, "A", "R", api.Mean{}, api.ErrNone},
		{1, "", "T", api.Mean{Kind: api.DcOpaque, Name: "A.T"}, api.OK}, {2, "A", "T", api.Mean{Kind: api.DcOpaque, Name: "A.T"}, api.OK},
		{0, "", "v", api.Mean{Kind: api.DcVar, Name: "A.v", Type: 2}, api.OK}, {2, "", "t", api.Mean{Kind: api.DcVar, Name: "Main.t"}, api.OK},
		{2, "A", "E", api.Mean{Kind: api.DcExcept, Name: "A.E"}, api.OK}, {1, "", "new", api.Mean{Kind: api.DcProc, Name: "A.new"}, api.OK}, {1, "A", "new", api.Mean{Kind: api.DcProc, Name: "A.new"}, api.OK},
		{2, "Main", "t", api.Mean{}, api.ErrNone}, {2, "", "", api.Mean{}, api.ErrNone}, {2, "A", "", api.Mean{}, api.ErrNone}, {2, "A.", "N", api.Mean{}, api.ErrNone}, {2, "", "A.N", api.Mean{}, api.ErrNone}, {2, "\xff", "N", api.Mean{}, api.ErrNone},
		{3, "", "N", api.Mean{}, api.ErrArg}, {-1, "", "N", api.Mean{}, api.ErrArg}, {1 << 40, "A", "N", api.Mean{}, api.ErrArg}, {-1 << 63, "", "", api.Mean{}, api.ErrArg},
	} {
		if m, e := v.Mean(x.unit, x.qualifier, x.name); m != x.want || e != x.e {
			t.Errorf("Mean(%d, %q, %q): %+v, %v instead of %+v, %v", x.unit, x.qualifier, x.name, m, e, x.want, x.e)
		}
	}
}

// F4: names without a qualifier are the unit's own ones, or those of its exports; with one they are those of an interface that is imported, exported, or both.
func TestMeanByQualifiers(t *testing.T) {
	v := open(t, "INTERFACE A; CONST x = 1; CONST a = TRUE; END A. INTERFACE B; CONST x = 2; CONST b = FALSE; END B. INTERFACE C; CONST x = 3; PROCEDURE p(); END C. INTERFACE D; CONST x = 4; END D. "+
		"MODULE M EXPORTS C; IMPORT A, B; CONST b = 9; PROCEDURE p() = BEGIN END p; PROCEDURE q() = BEGIN END q; END M. MODULE N EXPORTS A, E; IMPORT A; END N. INTERFACE E; END E. MODULE D; CONST y = x; END D. MODULE X; END X.")
	for _, x := range []struct {
		unit       int
		name, want string
		n          int
	}{
		{4, "x", "C.x", 3}, {4, "A.x", "A.x", 1}, {4, "B.x", "B.x", 2}, {4, "C.x", "C.x", 3}, {4, "D.x", "", 0}, {4, "b", "M.b", 9}, {4, "B.b", "B.b", 0}, {4, "a", "", 0},
		{4, "p", "C.p", 0}, {4, "C.p", "C.p", 0}, {4, "q", "M.q", 0}, {4, "C.q", "", 0}, {4, "M.q", "", 0}, {4, "M.b", "", 0},
		{5, "x", "A.x", 1}, {5, "A.x", "A.x", 1}, {5, "B.x", "", 0}, {5, "E.x", "", 0}, {5, "b", "", 0},
		{7, "x", "D.x", 4}, {7, "y", "D.y", 4}, {7, "D.x", "D.x", 4}, {7, "D.y", "", 0}, {3, "y", "", 0}, {3, "x", "D.x", 4}, {3, "D.x", "", 0},
		{8, "x", "", 0}, {8, "X.x", "", 0}, {8, "A.x", "", 0}, {0, "x", "A.x", 1}, {0, "B.x", "", 0}, {0, "b", "", 0},
	} {
		qualifier, name, ok := strings.Cut(x.name, ".")
		if !ok {
			qualifier, name = "", x.name
		}
		want := api.OK
		if x.want == "" {
			want = api.ErrNone
		}
		if m, e := v.Mean(x.unit, qualifier, name); m.Name != x.want || m.N != x.n || e != want {
			t.Errorf("Mean(%d, %s): %+v, %v instead of %s, %d", x.unit, x.name, m, e, x.want, x.n)
		}
	}
	if m, _ := v.Mean(0, "", "a"); m != (api.Mean{Kind: api.DcConst, Name: "A.a", Bool: true, N: 1}) {
		t.Errorf("Mean of a bool: %+v", m)
	}
}

// F4: a DcReveal declares no name.
func TestMeanOfRevealed(t *testing.T) {
	v := open(t, "INTERFACE A; TYPE T <: REFANY; END A. INTERFACE B; IMPORT A; REVEAL A.T <: ROOT; END B. MODULE M; IMPORT A, B; REVEAL A.T <: ROOT; END M.")
	for _, x := range [][2]string{{"", "T"}, {"B", "T"}} {
		if m, e := v.Mean(2, x[0], x[1]); e != api.ErrNone || m != (api.Mean{}) {
			t.Errorf("Mean of %v: %+v, %v", x, m, e)
		}
	}
	if m, e := v.Mean(1, "A", "T"); e != api.OK || m != (api.Mean{Kind: api.DcOpaque, Name: "A.T"}) {
		t.Errorf("Mean of A.T: %+v, %v", m, e)
	}
}

// P6.4: what a name means is declared in the unit, or by what it exports, or by what its qualifier names.
func TestSeen(t *testing.T) {
	names := []string{"i1", "i2", "b1", "t1", "t2", "o1", "q1", "v1", "e1", "p1", "p2", "i1x", "t1x", "p1x", "mi1", "mt1", "mp1"}
	count := 0
	libraries(64, 80, func(g *generator, l []api.Unit) {
		v := viewOf(t, l)
		for i, u := range l {
			exports, _ := world.Exports(l, i)
			for _, qualifier := range []string{"", "A", "B", "C", "M"} {
				for _, name := range names {
					m, e := v.Mean(i, qualifier, name)
					if e != api.OK {
						continue
					}
					count++
					in, _, _ := strings.Cut(m.Name, ".")
					if qualifier == "" && in != u.Name && !slices.Contains(exports, in) || qualifier != "" && (in != qualifier || !slices.Contains(append(exports, u.Imports...), in)) {
						t.Fatalf("%q, %q in %s means %+v, of\n%s", qualifier, name, u.Name, m, text(l))
					}
					if !isDeclared(l, in, name, m.Kind, qualifier == "") {
						t.Fatalf("%+v is not declared, of\n%s", m, text(l))
					}
				}
			}
		}
	})
	if count < 1000 {
		t.Errorf("only %d names mean something", count)
	}
}

// isDeclared reports whether an interface (or perhaps a module) with a Name declares a name as a kind.
func isDeclared(l []api.Unit, in, name string, kind uint8, orModule bool) bool {
	return slices.ContainsFunc(l, func(u api.Unit) bool {
		at, e := tree.Declared(u, name)
		return u.Name == in && (orModule || u.Kind == api.UnInterface) && e == api.OK && u.Decls[at].Kind == kind
	})
}

// F4: the values of expressions.
func TestValue(t *testing.T) {
	v := open(t, "INTERFACE A; CONST N = 6; CONST B = TRUE; CONST big = 1000000000; END A. MODULE M EXPORTS A; CONST k = N - 10; END M.")
	for src, want := range map[string]int{
		"0": 0, "7": 7, "1000000000": 1000000000, "-1000000000": -1000000000, "16_FF": 255, "N": 6, "k": -4, "big": 1000000000, "-big": -1000000000, "--N": 6, "-k": 4,
		"2 + 3": 5, "2 - 3": -1, "2 * 3": 6, "2 - 3 - 4": -5, "2 - (3 - 4)": 3, "2 + 3 * 4": 14, "(2 + 3) * 4": 20, "big - 1 + 1": 1000000000, "-big + big": 0, "0 * -5": 0,
		"7 DIV 2": 3, "-7 DIV 2": -4, "7 DIV -2": -4, "-7 DIV -2": 3, "6 DIV 2": 3, "-6 DIV 2": -3, "6 DIV -2": -3, "-6 DIV -2": 3, "0 DIV 5": 0, "0 DIV -5": 0, "1 DIV 2": 0, "-1 DIV 2": -1, "-1 DIV big": -1, "1 DIV -big": -1, "-big DIV -1": 1000000000, "big DIV 1": 1000000000,
		"7 MOD 2": 1, "-7 MOD 2": 1, "7 MOD -2": -1, "-7 MOD -2": -1, "6 MOD 2": 0, "-6 MOD 4": 2, "6 MOD -4": -2, "-6 MOD -4": -2, "0 MOD 5": 0, "0 MOD -5": 0, "-1 MOD big": 999999999, "1 MOD -big": -999999999, "big MOD big": 0, "-7 MOD N": 5, "7 MOD N * 2": 2,
		"7 DIV 2 DIV 2": 1, "100 DIV 7 MOD 3": 2,
	} {
		expectValue(t, v, 1, src, api.Const{N: want}, api.OK)
	}
	for src, want := range map[string]bool{
		"TRUE": true, "FALSE": false, "B": true, "NOT B": false, "NOT NOT B": true,
		"1 < 2": true, "2 < 2": false, "3 < 2": false, "1 <= 2": true, "2 <= 2": true, "3 <= 2": false, "k < 0": true, "-1 <= -2": false,
		"1 = 1": true, "1 = 2": false, "1 # 1": false, "1 # 2": true, "N = 6": true, "N # k": true,
		"TRUE = TRUE": true, "TRUE = FALSE": false, "FALSE = FALSE": true, "TRUE # TRUE": false, "FALSE # TRUE": true, "(1 = 2) = (3 < 2)": true, "0 = 0 = B": true,
		"TRUE AND TRUE": true, "TRUE AND FALSE": false, "FALSE AND TRUE": false, "FALSE AND FALSE": false, "TRUE OR TRUE": true, "TRUE OR FALSE": true, "FALSE OR TRUE": true, "FALSE OR FALSE": false,
		"1 < 2 AND NOT FALSE": true, "NOT B OR 2 < 1": false,
	} {
		n := 0
		if want {
			n = 1
		}
		expectValue(t, v, 1, src, api.Const{Bool: true, N: n}, api.OK)
	}
}

func expectValue(t *testing.T, v *world.View, unit int, src string, want api.Const, wantErr api.Errno) {
	t.Helper()
	if c, e := v.Value(unit, expr(t, src)); c != want || e != wantErr {
		t.Errorf("Value of %s: %+v, %v instead of %+v, %v", src, c, e, want, wantErr)
	}
}

// F4: what has no value.
func TestNoValue(t *testing.T) {
	v := open(t, exampleA+exampleBody+exampleMain+"INTERFACE B; CONST yes = TRUE; CONST big = 1000000000; END B. MODULE B; PROCEDURE p() = BEGIN END p; END B.")
	for src, e := range map[string]api.Errno{
		"x": api.ErrName, "v": api.ErrName, "T": api.ErrName, "E": api.ErrName, "new": api.ErrName, "R": api.ErrName, "p": api.ErrName, "TRUE + x": api.ErrName, "x + 1 DIV 0": api.ErrName, "NIL = x": api.ErrName, "new(1)": api.ErrName, "v^": api.ErrName,
		"TRUE + 1": api.ErrConst, "1 - TRUE": api.ErrConst, "yes * 2": api.ErrConst, "1 DIV FALSE": api.ErrConst, "TRUE MOD 2": api.ErrConst, "-TRUE": api.ErrConst, "-yes": api.ErrConst, "NOT 1": api.ErrConst, "NOT big": api.ErrConst,
		"TRUE + TRUE": api.ErrConst, "TRUE < FALSE": api.ErrConst, "FALSE <= TRUE": api.ErrConst, "1 < TRUE": api.ErrConst, "yes <= 1": api.ErrConst, "1 = TRUE": api.ErrConst, "TRUE = 1": api.ErrConst, "1 # TRUE": api.ErrConst, "FALSE # 0": api.ErrConst, "0 = FALSE": api.ErrConst,
		"1 AND 2": api.ErrConst, "1 OR 2": api.ErrConst, "TRUE AND 1": api.ErrConst, "1 OR TRUE": api.ErrConst, "FALSE AND 1": api.ErrConst, "TRUE OR 0": api.ErrConst,
		"1 DIV 0": api.ErrConst, "1 MOD 0": api.ErrConst, "0 DIV 0": api.ErrConst, "-1 MOD 0": api.ErrConst, "FALSE AND 1 DIV 0 = 1": api.ErrConst, "TRUE OR 1 MOD 0 = 1": api.ErrConst,
		"1000000000 + 1": api.ErrConst, "-1000000000 - 1": api.ErrConst, "big + 1": api.ErrConst, "big * 2": api.ErrConst, "big * big": api.ErrConst, "-big - 1": api.ErrConst, "-big * big": api.ErrConst, "big + 1 - 1": api.ErrConst, "big * big DIV big": api.ErrConst, "31623 * 31623": api.ErrConst,
		"NIL": api.ErrConst, "NIL = NIL": api.ErrConst, "NUMBER(1)": api.ErrConst, "FORK(1)": api.ErrConst, "NEW(INTEGER)": api.ErrConst, "NEW(REF INTEGER, 3)": api.ErrConst, "big^": api.ErrConst, "big.f": api.ErrConst, "big [1]": api.ErrConst, "big(1)": api.ErrConst, "NARROW(1, INTEGER)": api.ErrConst, "LOOPHOLE(1, INTEGER)": api.ErrConst,
	} {
		expectValue(t, v, 4, src, api.Const{}, e)
	}
	for _, x := range []struct {
		unit int
		src  string
		want int
		e    api.Errno
	}{{0, "N DIV 4", 1, api.OK}, {1, "N DIV 4", 1, api.OK}, {2, "N", 0, api.ErrName}, {0, "TRUE + 1", 0, api.ErrConst}, {2, "1", 1, api.OK}, {0, "yes", 0, api.ErrName}, {3, "N", 0, api.ErrName}} {
		expectValue(t, v, x.unit, x.src, api.Const{N: x.want}, x.e)
	}
	for unit, e := range map[int]api.Errno{0: api.ErrName, 1: api.OK, 2: api.OK, 3: api.ErrName, 4: api.ErrName} {
		want := api.Const{}
		if e == api.OK {
			want.N = 7
		}
		if c, got := v.Value(unit, qualified("A", expr(t, "N + 1"))); c != want || got != e {
			t.Errorf("Value of A.N + 1 in %d: %+v, %v", unit, c, got)
		}
	}
}

// F4: units and nodes that there cannot be.
func TestValueArguments(t *testing.T) {
	v := open(t, exampleA+exampleBody+exampleMain)
	for _, unit := range []int{-1, 3, 30, 1 << 40, -1 << 63} {
		expectValue(t, v, unit, "1", api.Const{}, api.ErrArg)
		expectValue(t, v, unit, "x", api.Const{}, api.ErrArg)
	}
	for _, l := range [][]api.Node{
		nil, {}, {{}}, {{Kind: api.ExInt, N: -1}}, {{Kind: api.ExInt, N: 1000000001}}, {{Kind: api.ExInt}, {Kind: api.ExInt}}, {{Kind: api.ExName}}, {{Kind: api.ExOp, Name: "-", Kids: []int{0}}},
		{{Kind: api.ExInt}, {Kind: api.ExOp, Name: "+", Kids: []int{0}}}, {{Kind: api.ExInt}, {Kind: api.ExOp, Name: "-", Kids: []int{1}}}, {{Kind: api.ExInt, Kids: []int{-1}}}, typ(t, "INTEGER"), parse(t, "MODULE M; BEGIN PUT 1 END M.")[0].Body,
	} {
		if c, e := v.Value(0, l); c != (api.Const{}) || e != api.ErrArg {
			t.Errorf("Value of %+v: %+v, %v", l, c, e)
		}
	}
}

// F4: the types of type expressions, behind those of the world.
func TestType(t *testing.T) {
	l := parse(t, exampleA+exampleBody+exampleMain)
	v, w := viewOf(t, l), worldOf(t, l)
	part := func(t int) []api.Part { return []api.Part{{Type: t}} }
	for _, x := range []struct {
		unit int
		src  string
		more api.Graph
		at   int
	}{
		{0, "REF ARRAY OF [N .. 9]", api.Graph{{Kind: api.KdRange, Low: 6, High: 9}, {Kind: api.KdArray, Parts: part(8)}}, 9},
		{0, "INTEGER", api.Graph{{Kind: api.KdInteger}}, 8}, {0, "T", nil, 0}, {1, "T", nil, 0}, {2, "A.T", nil, 0}, {1, "A.T", nil, 0}, {1, "R", nil, 6},
		{1, "REF R", api.Graph{{Kind: api.KdRef, Parts: part(6)}}, 8},
		{1, "REF REF A.T", api.Graph{{Kind: api.KdRef, Parts: part(0)}, {Kind: api.KdRef, Parts: part(8)}}, 9},
		{1, "BRANDED \"b\" REF RECORD a: T; b: [-1 .. 1]; END", api.Graph{{Kind: api.KdRange, Low: -1, High: 1}, {Kind: api.KdRecord, Branded: true, Brand: "b", Parts: []api.Part{{Name: "a", Type: 0}, {Name: "b", Type: 8}}}}, 9},
		{2, "A.T OBJECT METHODS m(a: A.T; b: NULL): A.T RAISES {A.E, ALERTED} := A.new; OVERRIDES o := A.new; END", api.Graph{{Kind: api.KdNull}, {
			Kind: api.KdObject, Super: 0, Methods: []api.Method{{Name: "m", Sig: api.Sig{Args: []int{0, 8}, Result: 0, Raises: []string{"A.E", "ALERTED"}}, Proc: "A.new"}}, Overs: []api.Over{{Name: "o", Proc: "A.new"}},
		}}, 9},
		{1, "R OBJECT x: REF R; METHODS m() := new; END", api.Graph{{Kind: api.KdRef, Parts: part(6)}, {Kind: api.KdObject, Super: 6, Parts: []api.Part{{Name: "x", Type: 8}}, Methods: []api.Method{{Name: "m", Sig: api.Sig{Result: -1}, Proc: "A.new"}}}}, 9},
	} {
		g, at, e := v.Type(x.unit, typ(t, x.src))
		if e != api.OK || at != x.at || shown(g) != shown(slices.Concat(w.Graph, x.more)) {
			t.Errorf("Type of %s in %d: %s, %d, %v", x.src, x.unit, shown(g), at, e)
		}
	}
}

// F4: type expressions that are none here.
func TestNoType(t *testing.T) {
	v := open(t, exampleA+exampleBody+exampleMain)
	for _, unit := range []int{-1, 3, 1 << 40} {
		expectNoType(t, v, unit, typ(t, "INTEGER"), api.ErrArg)
	}
	for _, l := range [][]api.Node{nil, {{}}, {{Kind: api.TyPlain}}, {{Kind: api.TyName, Name: "END"}}, expr(t, "1"), {{Kind: api.TyRef, Kids: []int{0}}}, {{Kind: api.TyPlain, Name: "ROOT"}, {Kind: api.TyPlain, Name: "ROOT"}}} {
		expectNoType(t, v, 0, l, api.ErrArg)
	}
	for _, x := range []struct {
		unit int
		src  string
		e    api.Errno
	}{
		{0, "R", api.ErrName}, {2, "T", api.ErrName}, {2, "A.R", api.ErrName}, {0, "v", api.ErrName}, {0, "N", api.ErrName}, {0, "E", api.ErrName}, {0, "new", api.ErrName}, {0, "A.T", api.ErrName}, {0, "REF x", api.ErrName},
		{0, "ROOT OBJECT METHODS m() RAISES {T}; END", api.ErrName}, {0, "ROOT OBJECT METHODS m() := v; END", api.ErrName}, {0, "ROOT OBJECT OVERRIDES m := x; END", api.ErrName}, {0, "ROOT OBJECT METHODS m(a: x); END", api.ErrName},
		{0, "[1 .. 0]", api.ErrConst}, {0, "[TRUE .. 1]", api.ErrConst}, {0, "[0 .. FALSE]", api.ErrConst}, {0, "[0 .. NIL]", api.ErrConst}, {0, "REF ARRAY OF [0 .. 1 DIV 0]", api.ErrConst},
		{0, "REF RECORD a: INTEGER; a: INTEGER; END", api.ErrType}, {0, "ROOT OBJECT METHODS m(); m(); END", api.ErrType}, {0, "ROOT OBJECT OVERRIDES m := new; m := new; END", api.ErrType}, {0, "REF ROOT OBJECT a: INTEGER; b: INTEGER; a: INTEGER; END", api.ErrType},
		// Of several the first one named.
		{0, "REF RECORD a: [1 .. 0]; a: INTEGER; b: x; END", api.ErrName}, {0, "REF RECORD a: [1 .. 0]; a: INTEGER; END", api.ErrConst}, {0, "REF RECORD a: x; a: [1 .. 0]; END", api.ErrName},
	} {
		expectNoType(t, v, x.unit, typ(t, x.src), x.e)
	}
	other := open(t, "MODULE M; TYPE T = REF INTEGER; TYPE U = REFANY; TYPE V = ROOT OBJECT END; END M.")
	for _, src := range []string{"T OBJECT END", "U OBJECT END", "REF T OBJECT END"} {
		expectNoType(t, other, 0, typ(t, src), api.ErrType)
	}
	if g, at, e := other.Type(0, typ(t, "V OBJECT END")); e != api.OK || at != len(g)-1 {
		t.Errorf("Type of V OBJECT END: %v, %d, %v", g, at, e)
	}
}

func expectNoType(t *testing.T, v *world.View, unit int, l []api.Node, want api.Errno) {
	t.Helper()
	if g, at, e := v.Type(unit, l); e != want || len(g) > 0 || at != 0 {
		t.Errorf("Type of %+v in %d: %v, %d, %v instead of %v", l, unit, g, at, e, want)
	}
}

// F4: 400 types with those of the expression, and one more.
func TestTypeLimit(t *testing.T) {
	src := "MODULE M; " + records(25) + "END M. MODULE N; TYPE T = v; TYPE v = REF INTEGER; " + records(24) + "END N."
	v := open(t, src) // 394 types
	six, seven := "REF REF REF REF REF INTEGER", "REF REF REF REF REF REF INTEGER"
	g, at, e := v.Type(0, typ(t, six))
	if e != api.OK || len(g) != 400 || at != 399 {
		t.Fatalf("Type of %s: %d types, %d, %v", six, len(g), at, e)
	}
	if _, e := types.Check(g); e != api.OK {
		t.Errorf("Check: %v", e)
	}
	expectNoType(t, v, 0, typ(t, seven), api.ErrLimit)
	expectNoType(t, v, 1, typ(t, "REF RECORD a: INTEGER; a: INTEGER; b: INTEGER; c: INTEGER; d: INTEGER; e: INTEGER; f: INTEGER; END"), api.ErrLimit)
	expectNoType(t, v, 1, typ(t, "REF RECORD a: INTEGER; a: INTEGER; b: INTEGER; c: INTEGER; d: INTEGER; e: [1 .. 0]; f: INTEGER; END"), api.ErrConst)
	expectNoType(t, v, 0, typ(t, "REF RECORD a: INTEGER; a: INTEGER; b: INTEGER; c: INTEGER; d: INTEGER; e: INTEGER; f: T; END"), api.ErrName)
	expectNoType(t, v, 1, typ(t, "REF RECORD a: INTEGER; a: INTEGER; b: INTEGER; c: INTEGER; d: INTEGER; e: T; END"), api.ErrType)
}

// R5: methods of a nil view.
func TestNil(t *testing.T) {
	var v *world.View
	for _, unit := range []int{0, -1} {
		if w, e := v.World(); e != api.ErrNil || shown(w) != shown(api.World{}) {
			t.Errorf("World of nil: %+v, %v", w, e)
		}
		if m, e := v.Mean(unit, "", "x"); e != api.ErrNil || m != (api.Mean{}) {
			t.Errorf("Mean of nil: %+v, %v", m, e)
		}
		expectValue(t, v, unit, "1", api.Const{}, api.ErrNil)
		expectNoType(t, v, unit, typ(t, "INTEGER"), api.ErrNil)
		expectNoType(t, v, unit, nil, api.ErrNil)
		if c, e := v.Value(unit, nil); e != api.ErrNil || c != (api.Const{}) {
			t.Errorf("Value of nil: %+v, %v", c, e)
		}
	}
}
