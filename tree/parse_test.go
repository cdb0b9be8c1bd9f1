package tree_test

import (
	"slices"
	"strings"
	"testing"

	"trestle/api"
	"trestle/tree"
)

// B4: the forms of expressions.
func TestParseExpr(t *testing.T) {
	for src, want := range map[string]string{
		"0":                   "(ExInt)",
		"16_FF":               "(ExInt 255)",
		"1000000000":          "(ExInt 1000000000)",
		"NIL":                 "(ExNil)",
		"TRUE":                "(ExBool 1)",
		"FALSE":               "(ExBool)",
		"x":                   "(ExName x)",
		"A.x":                 "(ExField x (ExName A))",
		"a.b.c":               "(ExField c (ExField b (ExName a)))",
		"a[1]":                "(ExIndex (ExName a) (ExInt 1))",
		"a[1][b.c]^":          "(ExDeref (ExIndex (ExIndex (ExName a) (ExInt 1)) (ExField c (ExName b))))",
		"f()":                 "(ExCall (ExName f))",
		"f(1, x)":             "(ExCall (ExName f) (ExInt 1) (ExName x))",
		"a.f(b.g())":          "(ExCall (ExField f (ExName a)) (ExCall (ExField g (ExName b))))",
		"f().g()":             "(ExCall (ExField g (ExCall (ExName f))))",
		"(a).f()":             "(ExCall (ExField f (ExName a)))",
		"a^.f(1)[2]":          "(ExIndex (ExCall (ExField f (ExDeref (ExName a))) (ExInt 1)) (ExInt 2))",
		"NIL.x":               "(ExField x (ExNil))",
		"5.x":                 "(ExField x (ExInt 5))",
		"5[6]":                "(ExIndex (ExInt 5) (ExInt 6))",
		"NEW(T)":              "(ExNew (TyName T))",
		"NEW(A.T, n)":         "(ExNew (TyName A.T) (ExName n))",
		"NEW(ROOT)^":          "(ExDeref (ExNew (TyPlain ROOT)))",
		"NARROW(x, T)":        "(ExNarrow (ExName x) (TyName T))",
		"LOOPHOLE(x, REFANY)": "(ExLoop (ExName x) (TyPlain REFANY))",
		"NUMBER(a)":           "(ExNumber (ExName a))",
		"FORK(a + b)":         "(ExFork (ExOp + (ExName a) (ExName b)))",
		"-a":                  "(ExOp - (ExName a))",
		"--a":                 "(ExOp - (ExOp - (ExName a)))",
		"-a.b":                "(ExOp - (ExField b (ExName a)))",
		"-a * -b":             "(ExOp * (ExOp - (ExName a)) (ExOp - (ExName b)))",
		"a - -b":              "(ExOp - (ExName a) (ExOp - (ExName b)))",
		"a - b - c":           "(ExOp - (ExOp - (ExName a) (ExName b)) (ExName c))",
		"a + b * c":           "(ExOp + (ExName a) (ExOp * (ExName b) (ExName c)))",
		"(a + b) * c":         "(ExOp * (ExOp + (ExName a) (ExName b)) (ExName c))",
		"a DIV b MOD c * d":   "(ExOp * (ExOp MOD (ExOp DIV (ExName a) (ExName b)) (ExName c)) (ExName d))",
		"a < b = c":           "(ExOp = (ExOp < (ExName a) (ExName b)) (ExName c))",
		"a # b <= c + d":      "(ExOp <= (ExOp # (ExName a) (ExName b)) (ExOp + (ExName c) (ExName d)))",
		"NOT a = b":           "(ExOp NOT (ExOp = (ExName a) (ExName b)))",
		"(NOT a) = b":         "(ExOp = (ExOp NOT (ExName a)) (ExName b))",
		"NOT NOT a":           "(ExOp NOT (ExOp NOT (ExName a)))",
		"NOT a AND b OR c":    "(ExOp OR (ExOp AND (ExOp NOT (ExName a)) (ExName b)) (ExName c))",
		"a OR b AND NOT c":    "(ExOp OR (ExName a) (ExOp AND (ExName b) (ExOp NOT (ExName c))))",
		"a OR b OR c":         "(ExOp OR (ExOp OR (ExName a) (ExName b)) (ExName c))",
		"((a)) (* b *)":       "(ExName a)",
	} {
		if l, f := tree.ParseExpr(src); f != (api.Fault{}) || shown(l) != want || !tree.IsExpr(l) {
			t.Errorf("ParseExpr(%q): %s, %+v", src, shown(l), f)
		}
	}
}

// B4: the forms of types.
func TestParseType(t *testing.T) {
	for src, want := range map[string]string{
		"T":                    "(TyName T)",
		"A.T":                  "(TyName A.T)",
		"INTEGER":              "(TyPlain INTEGER)",
		"BOOLEAN":              "(TyPlain BOOLEAN)",
		"REFANY":               "(TyPlain REFANY)",
		"NULL":                 "(TyPlain NULL)",
		"ROOT":                 "(TyPlain ROOT)",
		"MUTEX":                "(TyPlain MUTEX)",
		"CONDITION":            "(TyPlain CONDITION)",
		"[1..n+1]":             "(TyRange (ExInt 1) (ExOp + (ExName n) (ExInt 1)))",
		"[A.x..-1]":            "(TyRange (ExField x (ExName A)) (ExOp - (ExInt 1)))",
		"REF T":                "(TyRef (TyName T))",
		"REF REF INTEGER":      "(TyRef (TyRef (TyPlain INTEGER)))",
		"BRANDED \"b\" REF T":  "(TyRef b 1 (TyName T))",
		"REF ARRAY OF INTEGER": "(TyArray (TyPlain INTEGER))",
		"BRANDED \"b c\" REF ARRAY OF REF ARRAY OF T":          "(TyArray b c 1 (TyArray (TyName T)))",
		"REF RECORD x: INTEGER; y: A.T; END":                   "(TyRecord (NdField x (TyPlain INTEGER)) (NdField y (TyName A.T)))",
		"BRANDED \"b\" REF RECORD x: T; END":                   "(TyRecord b 1 (NdField x (TyName T)))",
		"ROOT OBJECT END":                                      "(TyObject (TyPlain ROOT))",
		"MUTEX BRANDED \"b\" OBJECT x: T; END":                 "(TyObject b 1 (TyPlain MUTEX) (NdField x (TyName T)))",
		"T OBJECT METHODS OVERRIDES END":                       "(TyObject (TyName T))",
		"A.T OBJECT METHODS m(); n() := A.p; END":              "(TyObject (TyName A.T) (NdMethod m (NdSig)) (NdMethod n (NdSig) (ExName A.p)))",
		"T OBJECT OVERRIDES m := p; n := A.p; END":             "(TyObject (TyName T) (NdOver m (ExName p)) (NdOver n (ExName A.p)))",
		"T OBJECT x: U; METHODS m(); OVERRIDES m := p; END":    "(TyObject (TyName T) (NdField x (TyName U)) (NdMethod m (NdSig)) (NdOver m (ExName p)))",
		"T OBJECT METHODS m(): REF T RAISES {E, A.F}; END":     "(TyObject (TyName T) (NdMethod m (NdSig (NdRaise E) (NdRaise A.F) (TyRef (TyName T)))))",
		"T OBJECT METHODS m(a: U; b: V) RAISES {ALERTED}; END": "(TyObject (TyName T) (NdMethod m (NdSig (NdParam a (TyName U)) (NdParam b (TyName V)) (NdRaise ALERTED))))",
		"T OBJECT METHODS m(a: [1..2]): ROOT OBJECT METHODS n(): [3..4] RAISES {E}; END RAISES {F} := p; END": "(TyObject (TyName T) (NdMethod m (NdSig (NdParam a (TyRange (ExInt 1) (ExInt 2))) (NdRaise F) " +
			"(TyObject (TyPlain ROOT) (NdMethod n (NdSig (NdRaise E) (TyRange (ExInt 3) (ExInt 4)))))) (ExName p)))",
		"T OBJECT METHODS m() RAISES {}; END": "(TyObject (TyName T) (NdMethod m (NdSig)))",
	} {
		if l, f := tree.ParseType(src); f != (api.Fault{}) || shown(l) != want || !tree.IsType(l) {
			t.Errorf("ParseType(%q): %s, %+v", src, shown(l), f)
		}
	}
}

// B1: the forms of statements, in a module that imports A.
func TestParseStatements(t *testing.T) {
	for src, want := range map[string]string{
		"":                           "",
		"VAR x: INTEGER := 1":        "(StVar x (TyPlain INTEGER) (ExInt 1))",
		"x := y":                     "(StSet (ExName x) (ExName y))",
		"A.x := A.y.z":               "(StSet (ExName A.x) (ExField z (ExName A.y)))",
		"(A).x := (A.y)":             "(StSet (ExField x (ExName A)) (ExName A.y))",
		"a.x := 1; b[1] := 2":        "(StSet (ExField x (ExName a)) (ExInt 1)) (StSet (ExIndex (ExName b) (ExInt 1)) (ExInt 2))",
		"(x) := 1; ((c^)) := 3":      "(StSet (ExName x) (ExInt 1)) (StSet (ExDeref (ExName c)) (ExInt 3))",
		"(a + b).x := 1; 5[6] := 7":  "(StSet (ExField x (ExOp + (ExName a) (ExName b))) (ExInt 1)) (StSet (ExIndex (ExInt 5) (ExInt 6)) (ExInt 7))",
		"NEW(T)^ := x; NIL.f(1)":     "(StSet (ExDeref (ExNew (TyName T))) (ExName x)) (StDo (ExCall (ExField f (ExNil)) (ExInt 1)))",
		"f(); A.f(x); ((g(1)))":      "(StDo (ExCall (ExName f))) (StDo (ExCall (ExName A.f) (ExName x))) (StDo (ExCall (ExName g) (ExInt 1)))",
		"IF a THEN f() END":          "(StIf (ExName a) (StSeq (StDo (ExCall (ExName f)))))",
		"IF a THEN ELSE END":         "(StIf (ExName a) (StSeq) (StSeq))",
		"IF a THEN ELSIF b THEN END": "(StIf (ExName a) (StSeq) (StSeq (StIf (ExName b) (StSeq))))",
		"IF a THEN RETURN ELSIF b THEN ELSIF c THEN ELSE PUT 1 END": "(StIf (ExName a) (StSeq (StReturn)) (StSeq (StIf (ExName b) (StSeq) (StSeq (StIf (ExName c) (StSeq) (StSeq (StPut (ExInt 1))))))))",
		"IF a THEN ELSE IF b THEN END END":                          "(StIf (ExName a) (StSeq) (StSeq (StIf (ExName b) (StSeq))))",
		"WHILE a DO LOCK m DO END END":                              "(StWhile (ExName a) (StSeq (StLock (ExName m) (StSeq))))",
		"RETURN":                                                    "(StReturn)",
		"RETURN NOT a":                                              "(StReturn (ExOp NOT (ExName a)))",
		"RETURN -1; RETURN (x)":                                     "(StReturn (ExOp - (ExInt 1))) (StReturn (ExName x))",
		"RAISE E; RAISE A.E; RAISE b.E; RAISE ALERTED":              "(StRaise E) (StRaise A.E) (StRaise b.E) (StRaise ALERTED)",
		"TRY EXCEPT | E => END":                                     "(StTry (StSeq) (NdWhen E (StSeq)))",
		"TRY PUT 1 EXCEPT | A.E => PUT 2; PUT 3 | ALERTED => ELSE PUT 4 END": "(StTry (StSeq (StPut (ExInt 1))) (NdWhen A.E (StSeq (StPut (ExInt 2)) (StPut (ExInt 3)))) (NdWhen ALERTED (StSeq)) (NdWhen (StSeq (StPut (ExInt 4)))))",
		"TRY EXCEPT ELSE END":                                  "(StTry (StSeq) (NdWhen (StSeq)))",
		"TRY f() FINALLY g() END":                              "(StFinally (StSeq (StDo (ExCall (ExName f)))) (StSeq (StDo (ExCall (ExName g)))))",
		"TYPECASE x OF | T => END":                             "(StCase (ExName x) (NdArm (TyName T) (StSeq)))",
		"TYPECASE x OF | A.T (y) => PUT y | REF T => ELSE END": "(StCase (ExName x) (NdArm var=y (TyName A.T) (StSeq (StPut (ExName y)))) (NdArm (TyRef (TyName T)) (StSeq)) (NdArm (StSeq)))",
		"TYPECASE x OF ELSE RETURN END":                        "(StCase (ExName x) (NdArm (StSeq (StReturn))))",
		"PUT 1; JOIN t; SIGNAL c; ALL c; ALERT t":              "(StPut (ExInt 1)) (StJoin (ExName t)) (StSignal (ExName c)) (StAll (ExName c)) (StAlert (ExName t))",
		"WAIT m, c": "(StWait (ExName m) (ExName c))",
	} {
		l := mustParse(t, "MODULE M; IMPORT A; BEGIN "+src+" END M.")
		got := strings.TrimSuffix(strings.TrimPrefix(strings.TrimPrefix(shown(l[0].Body), "(StSeq"), " "), ")")
		if got != want {
			t.Errorf("the statements %q: %s", src, got)
		}
	}
}

// B1: the forms of units.
func TestParseUnits(t *testing.T) {
	seq := []api.Node{{Kind: api.StSeq}}
	for src, want := range map[string]api.Unit{
		"INTERFACE A; END A.":                           {Kind: 1, Name: "A"},
		"UNSAFE INTERFACE A; IMPORT B, C; END A.":       {Kind: 1, Name: "A", Unsafe: true, Imports: []string{"B", "C"}},
		"INTERFACE A; IMPORT B; IMPORT D, C; END A.":    {Kind: 1, Name: "A", Imports: []string{"B", "D", "C"}},
		"GENERIC INTERFACE A(E, F); END A.":             {Kind: 1, Name: "A", Generic: true, Formals: []string{"E", "F"}},
		"UNSAFE GENERIC MODULE A(E); END A.":            {Kind: 2, Name: "A", Unsafe: true, Generic: true, Formals: []string{"E"}, Body: seq},
		"MODULE A; END A.":                              {Kind: 2, Name: "A", Body: seq},
		"MODULE A; BEGIN END A.":                        {Kind: 2, Name: "A", Body: seq},
		"MODULE A EXPORTS B, C; END A.":                 {Kind: 2, Name: "A", Exports: []string{"B", "C"}, Body: seq},
		"INTERFACE A = G(B) END A.":                     {Kind: 1, Name: "A", Of: "G", Actuals: []string{"B"}},
		"UNSAFE MODULE A = G(B, B) END A.":              {Kind: 2, Name: "A", Unsafe: true, Of: "G", Actuals: []string{"B", "B"}},
		"MODULE A EXPORTS C = G(B) END A.":              {Kind: 2, Name: "A", Exports: []string{"C"}, Of: "G", Actuals: []string{"B"}},
		"INTERFACE A; EXCEPTION E; EXCEPTION E; END A.": {Kind: 1, Name: "A", Decls: []api.Decl{{Kind: 5, Name: "E"}, {Kind: 5, Name: "E"}}},
	} {
		if l := mustParse(t, src); len(l) != 1 || !sameUnit(l[0], want) {
			t.Errorf("Parse(%q): %+v", src, l)
		}
	}
	l := mustParse(t, "INTERFACE A; END A. MODULE A; END A.INTERFACE A=G(A)END A.")
	if kinds := []uint8{l[0].Kind, l[1].Kind, l[2].Kind}; len(l) != 3 || !slices.Equal(kinds, []uint8{1, 2, 1}) {
		t.Errorf("three units: %+v", l)
	}
}

// B1: the forms of declarations, in interfaces and in modules.
func TestParseDecls(t *testing.T) {
	for _, c := range []struct {
		places, src string
		kind        uint8
		unit, name  string
		n           int
		nodes, body string
	}{
		{"im", "CONST c = a = b;", api.DcConst, "", "c", 0, "(ExOp = (ExName a) (ExName b))", ""},
		{"im", "TYPE T = REF T;", api.DcType, "", "T", 0, "(TyRef (TyName T))", ""},
		{"i", "TYPE T <: ROOT;", api.DcOpaque, "", "T", 0, "(TyPlain ROOT)", ""},
		{"i", "TYPE T <: REFANY;", api.DcOpaque, "", "T", 0, "(TyPlain REFANY)", ""},
		{"i", "TYPE T <: MUTEX;", api.DcOpaque, "", "T", 0, "(TyPlain MUTEX)", ""},
		{"i", "TYPE T <: A.U;", api.DcOpaque, "", "T", 0, "(TyName A.U)", ""},
		{"im", "VAR x: INTEGER;", api.DcVar, "", "x", 0, "(TyPlain INTEGER)", ""},
		{"im", "VAR x: [1..2] := A.y + b.z;", api.DcVar, "", "x", 0, "(TyRange (ExInt 1) (ExInt 2))", "(ExOp + (ExName A.y) (ExField z (ExName b)))"},
		{"im", "EXCEPTION E;", api.DcExcept, "", "E", 0, "", ""},
		{"i", "PROCEDURE p(x: INTEGER; x: T): BOOLEAN RAISES {E};", api.DcProc, "", "p", 0, "(NdSig (NdParam x (TyPlain INTEGER)) (NdParam x (TyName T)) (NdRaise E) (TyPlain BOOLEAN))", ""},
		{"m", "PROCEDURE p() = BEGIN END p;", api.DcProc, "", "p", 0, "(NdSig)", "(StSeq)"},
		{"m", "PROCEDURE p() = BEGIN RETURN; PUT 1 END p;", api.DcProc, "", "p", 0, "(NdSig)", "(StSeq (StReturn) (StPut (ExInt 1)))"},
		{"im", "REVEAL T = U;", api.DcReveal, "", "T", 1, "(TyName U)", ""},
		{"im", "REVEAL A.T <: U;", api.DcReveal, "A", "T", 0, "(TyName U)", ""},
	} {
		for _, head := range []string{"INTERFACE", "GENERIC INTERFACE", "MODULE", "GENERIC MODULE"} {
			formals := ""
			if strings.HasPrefix(head, "GENERIC") {
				formals = "(F)"
			}
			src := head + " M" + formals + "; IMPORT A;\n" + c.src + "\nEND M."
			l, f := tree.Parse(src)
			if strings.HasSuffix(head, "INTERFACE") != strings.Contains(c.places, "i") && strings.HasSuffix(head, "MODULE") != strings.Contains(c.places, "m") {
				if f.Err == api.OK {
					t.Errorf("Parse(%q): no fault", src)
				}
				continue
			}
			if f != (api.Fault{}) || len(l) != 1 || len(l[0].Decls) != 1 {
				t.Errorf("Parse(%q): %+v, %+v", src, l, f)
				continue
			}
			d := l[0].Decls[0]
			if d.Kind != c.kind || d.Unit != c.unit || d.Name != c.name || d.N != c.n || shown(d.Nodes) != c.nodes || shown(d.Body) != c.body {
				t.Errorf("Parse(%q): %+v: %s; %s", src, d, shown(d.Nodes), shown(d.Body))
			}
		}
	}
}

// The grammar: a NAME "." NAME of an expression is a qname by the names of the unit in which it stands, and a field otherwise.
func TestQnames(t *testing.T) {
	for src, want := range map[string]string{
		"MODULE M; IMPORT B, A; BEGIN PUT A.x END M.":                                     "(ExName A.x)",
		"MODULE M; IMPORT B; IMPORT A; BEGIN PUT A.x END M.":                              "(ExName A.x)",
		"MODULE M EXPORTS B, A; BEGIN PUT A.x END M.":                                     "(ExName A.x)",
		"GENERIC MODULE M(B, A); BEGIN PUT A.x END M.":                                    "(ExName A.x)",
		"MODULE M; IMPORT A; BEGIN PUT A (* y *) .\nx END M.":                             "(ExName A.x)",
		"MODULE M; IMPORT A; BEGIN PUT A.x.y[A.z] END M.":                                 "(ExIndex (ExField y (ExName A.x)) (ExName A.z))",
		"MODULE M; IMPORT A; BEGIN PUT A.f(A) END M.":                                     "(ExCall (ExName A.f) (ExName A))",
		"MODULE M; IMPORT A; BEGIN PUT (A).x END M.":                                      "(ExField x (ExName A))",
		"MODULE M; IMPORT A; BEGIN PUT a.A.x END M.":                                      "(ExField x (ExField A (ExName a)))",
		"MODULE M; IMPORT A; BEGIN PUT A[1] END M.":                                       "(ExIndex (ExName A) (ExInt 1))",
		"MODULE M; IMPORT B; BEGIN PUT A.x END M.":                                        "(ExField x (ExName A))",
		"MODULE A; BEGIN PUT A.x END A.":                                                  "(ExField x (ExName A))",
		"MODULE M; IMPORT A; END M. MODULE N; BEGIN PUT A.x END N.":                       "(ExField x (ExName A))",
		"MODULE M; IMPORT B; TYPE A = REF T; BEGIN PUT A.x END M.":                        "(ExField x (ExName A))",
		"INTERFACE I = G(A) END I. MODULE M; BEGIN PUT A.x END M.":                        "(ExField x (ExName A))",
		"MODULE M; BEGIN PUT NEW(A.T, A.x) END M.":                                        "(ExNew (TyName A.T) (ExField x (ExName A)))",
		"MODULE M; BEGIN PUT NEW(REF ARRAY OF A.T OBJECT OVERRIDES m := A.p; END) END M.": "(ExNew (TyArray (TyObject (TyName A.T) (NdOver m (ExName A.p)))))",
		"MODULE M; IMPORT A; BEGIN PUT NARROW(x, [A.x..B.x]) END M.":                      "(ExNarrow (ExName x) (TyRange (ExName A.x) (ExField x (ExName B))))",
	} {
		l := mustParse(t, src)
		body := l[len(l)-1].Body
		if got := shown(body[:len(body)-2]); got != want {
			t.Errorf("Parse(%q): %s", src, got)
		}
	}
	l := mustParse(t, "INTERFACE I; IMPORT A; CONST c = A.x; VAR v: [A.x..B.x] := B.x; END I.")
	if got := shown(l[0].Decls[0].Nodes) + shown(l[0].Decls[1].Nodes) + shown(l[0].Decls[1].Body); got != "(ExName A.x)(TyRange (ExName A.x) (ExField x (ExName B)))(ExField x (ExName B))" {
		t.Errorf("qnames in declarations: %s", got)
	}
}
