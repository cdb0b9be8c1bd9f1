package tree_test

import (
	"strings"
	"testing"

	"trestle/api"
	"trestle/scan"
	"trestle/tree"
)

// B2: the layout of all that has lines of its own.
func TestLayout(t *testing.T) {
	for _, lines := range [][]string{
		{
			"INTERFACE A;",
			"END A.",
		},
		{
			"UNSAFE GENERIC INTERFACE A(E, F);",
			"IMPORT B, C;",
			"END A.",
		},
		{
			"MODULE A EXPORTS B, C;",
			"END A.",
		},
		{"UNSAFE MODULE A EXPORTS B, C = G(D, D) END A."},
		{"INTERFACE A = G(B) END A."},
		{
			"INTERFACE A;",
			"IMPORT B;",
			"CONST c = -1;",
			"TYPE T = B.T;",
			"TYPE U <: ROOT;",
			"VAR x: INTEGER;",
			"VAR y: [1..2] := c + 1;",
			"EXCEPTION E;",
			"PROCEDURE p();",
			"PROCEDURE q(x: INTEGER; y: T): BOOLEAN RAISES {E, B.F, ALERTED};",
			"REVEAL B.U <: T;",
			"REVEAL U = ROOT OBJECT END;",
			"END A.",
		},
		{
			"MODULE A;",
			"PROCEDURE p(): INTEGER =",
			"BEGIN",
			"  RETURN 1",
			"END p;",
			"VAR x: T;",
			"PROCEDURE q() RAISES {E} =",
			"BEGIN",
			"END q;",
			"BEGIN",
			"  PUT 1",
			"END A.",
		},
		{
			"MODULE A;",
			"BEGIN",
			"  VAR x: INTEGER := 0;",
			"  x := 1;",
			"  f(x);",
			"  IF a THEN",
			"    PUT 1;",
			"    PUT 2",
			"  END;",
			"  IF a THEN",
			"    PUT 1",
			"  ELSIF b THEN",
			"  ELSIF c THEN",
			"    PUT 2",
			"  ELSE",
			"    IF d THEN",
			"    END;",
			"    PUT 3",
			"  END;",
			"  IF a THEN",
			"  ELSE",
			"  END;",
			"  WHILE a DO",
			"    LOCK m DO",
			"      WAIT m, c",
			"    END",
			"  END;",
			"  TRY",
			"    RAISE E",
			"  EXCEPT",
			"  | E =>",
			"    RAISE ALERTED",
			"  | B.F =>",
			"  | ALERTED =>",
			"    PUT 1;",
			"    PUT 2",
			"  ELSE",
			"    RETURN",
			"  END;",
			"  TRY",
			"  EXCEPT",
			"  ELSE",
			"  END;",
			"  TRY",
			"    JOIN t",
			"  FINALLY",
			"    ALERT t",
			"  END;",
			"  TYPECASE x OF",
			"  | T (y) =>",
			"    SIGNAL y",
			"  | [1..2] (z) =>",
			"  | ROOT OBJECT END (z) =>",
			"  | REF B.T =>",
			"    TYPECASE x OF",
			"    ELSE",
			"      ALL c",
			"    END",
			"  ELSE",
			"    PUT 1",
			"  END;",
			"  RETURN a = b",
			"END A.",
		},
		{
			"INTERFACE A;",
			"END A.",
			"",
			"INTERFACE I = G(A) END I.",
			"",
			"MODULE A;",
			"BEGIN",
			"  RETURN",
			"END A.",
		},
	} {
		want := strings.Join(lines, "\n") + "\n"
		if got := mustPrint(t, mustParse(t, strings.Join(lines, " "))); got != want {
			t.Errorf("Print:\n%s; expected\n%s", got, want)
		}
	}
}

// B4: types and expressions in one line, with blanks and parentheses as canonical text has them.
func TestPrintParts(t *testing.T) {
	for _, s := range []string{
		"T", "A.T", "INTEGER", "[1..2]", "[-1..a + b]", "[f(1)..a[2]]", "REF T", "REF [1..2]", "REF REF ARRAY OF [1..2]", "BRANDED \"a b\" REF T",
		"BRANDED \"b\" REF ARRAY OF A.T", "REF RECORD x: INTEGER; END", "BRANDED \"b\" REF RECORD x: T; y: REF RECORD z: T; END; END",
		"ROOT OBJECT END", "A.T BRANDED \"b\" OBJECT END", "MUTEX OBJECT x: T; y: [1..2]; END", "T OBJECT METHODS m(); END", "T OBJECT OVERRIDES m := p; n := A.q; END",
		"T OBJECT x: T; METHODS m(a: INTEGER; b: [1..2]): [3..4] RAISES {E, A.F, ALERTED} := A.p; n(): T; OVERRIDES o := p; END",
	} {
		l, f := tree.ParseType(s)
		if got, e := tree.PrintType(l); f != (api.Fault{}) || got != s || e != api.OK {
			t.Errorf("PrintType of %q: %q, error %d, %+v", s, got, e, f)
		}
	}
	for src, want := range map[string]string{
		"00001_F":                         "",
		"16_F":                            "15",
		"NIL":                             "NIL",
		"(TRUE)":                          "TRUE",
		"FALSE":                           "FALSE",
		"a . b ^ [1]":                     "a.b^[1]",
		"5[1]":                            "5 [1]",
		"NIL[1]":                          "NIL [1]",
		"5.a^":                            "5.a^",
		"f(1)[2][3]^[4].g(5)":             "f(1)[2][3]^[4].g(5)",
		"(a + b)[1]; ":                    "",
		"(a + b)[1] + (a + b).c + (- a)^": "(a + b)[1] + (a + b).c + (-a)^",
		"(NOT a)^":                        "(NOT a)^",
		"NEW(T)[1]":                       "NEW(T)[1]",
		"NEW([1..2], 3)":                  "NEW([1..2], 3)",
		"NARROW(x,[1..2])":                "NARROW(x, [1..2])",
		"LOOPHOLE((x),REF T)":             "LOOPHOLE(x, REF T)",
		"NUMBER((a)) - FORK((b))":         "NUMBER(a) - FORK(b)",
		"f((a),(b+c))":                    "f(a, b + c)",
		"a[(b)]":                          "a[b]",
		"- - a":                           "--a",
		"-(-a)":                           "--a",
		"a - (-b)":                        "a - -b",
		"-(a * b)":                        "-(a * b)",
		"(-a) * b":                        "-a * b",
		"-(a.b)":                          "-a.b",
		"-(f(1))":                         "-f(1)",
		"-((a) + b)":                      "-(a + b)",
		"-(NOT a)":                        "-(NOT a)",
		"NOT (NOT a)":                     "NOT NOT a",
		"NOT (a AND b)":                   "NOT (a AND b)",
		"NOT (a < b)":                     "NOT a < b",
		"(NOT a) < b":                     "(NOT a) < b",
		"a = (NOT b)":                     "a = (NOT b)",
		"a AND (NOT b)":                   "a AND NOT b",
		"(NOT a) AND b":                   "NOT a AND b",
		"(a OR b) OR c":                   "a OR b OR c",
		"a OR (b OR c)":                   "a OR (b OR c)",
		"(a AND b) AND (c AND d)":         "a AND b AND (c AND d)",
		"(a OR b) AND (c OR d)":           "(a OR b) AND (c OR d)",
		"(a AND b) OR (c AND d)":          "a AND b OR c AND d",
		"(a < b) < (c < d)":               "a < b < (c < d)",
		"(a <= b) # (c = d)":              "a <= b # (c = d)",
		"(a + b) < (c - d)":               "a + b < c - d",
		"(a < b) + c":                     "(a < b) + c",
		"(a + b) - (c + d)":               "a + b - (c + d)",
		"(a * b) + (c DIV d)":             "a * b + c DIV d",
		"(a + b) MOD (c - d)":             "(a + b) MOD (c - d)",
		"(a DIV b) DIV (c DIV d)":         "a DIV b DIV (c DIV d)",
		"(a = b) AND ((c))":               "a = b AND c",
		"NOT (a = b) AND -(-c) < d.f(1)":  "NOT a = b AND --c < d.f(1)",
		"a(*b*)+<*c*>d":                   "a + d",
		"NEW(REF ARRAY OF ROOT OBJECT x:T;END,(1))[(0)]^.f((-1))": "NEW(REF ARRAY OF ROOT OBJECT x: T; END, 1)[0]^.f(-1)",
	} {
		l, f := tree.ParseExpr(src)
		if want == "" {
			if f.Err == api.OK {
				t.Errorf("ParseExpr(%q): no fault", src)
			}
			continue
		}
		if got, e := tree.PrintExpr(l); f != (api.Fault{}) || got != want || e != api.OK {
			t.Errorf("PrintExpr of %q: %q, error %d, %+v", src, got, e, f)
		}
	}
}

// B2: between the words of each line stands what the rule of blanks says, and nothing stands at the end of a line.
func TestBlanks(t *testing.T) {
	g := newGenerator(41)
	for range 1000 {
		src := mustPrint(t, g.units(2, 40))
		for _, line := range strings.Split(src, "\n") {
			body := strings.TrimLeft(line, " ")
			if (len(line)-len(body))%2 != 0 || body != spaced(t, body) {
				t.Fatalf("the line %q; expected %q", line, spaced(t, body))
			}
		}
	}
}

// spaced returns the tokens of a line with the blanks of canonical text: with one between all of them at first, and then without those that are not to be there.
func spaced(t *testing.T, line string) string {
	tokens, f := scan.Scan(line)
	if f != (api.Fault{}) {
		t.Fatalf("the line %q: %+v", line, f)
	}
	var b strings.Builder
	for i, tok := range tokens {
		if i > 0 && !touches(tokens, i) {
			b.WriteString(" ")
		}
		b.WriteString(tok.Text)
	}
	return b.String()
}

// touches reports whether no blank stands ahead of a token.
func touches(tokens []api.Token, i int) bool {
	before, tok := tokens[i-1], tokens[i]
	if strings.Contains(" , ; : ) ] } . ^ .. ", " "+tok.Text+" ") || strings.Contains(" ( [ { . .. ", " "+before.Text+" ") {
		return true
	}
	if before.Text == "-" && (i == 1 || isOneOperand(tokens[i-2])) {
		return true
	}
	inArm := tokens[0].Text == "|" && tokens[len(tokens)-1].Text == "=>" && tok.Text == "(" && i == len(tokens)-4
	if inArm || tok.Text != "(" && tok.Text != "[" {
		return false
	}
	return before.Kind == api.TokName || strings.Contains(" NEW NARROW NUMBER LOOPHOLE FORK ) ] ^ ", " "+before.Text+" ")
}

// isOneOperand reports whether a "-" behind a token has one operand: no operand ends ahead of it.
func isOneOperand(before api.Token) bool {
	switch before.Kind {
	case api.TokName, api.TokNumber:
		return false
	}
	return !strings.Contains(" NIL TRUE FALSE ) ] ^ ", " "+before.Text+" ")
}

// B2: no parentheses around an operand can be left out.
func TestParenthesesAreNeeded(t *testing.T) {
	g := newGenerator(42)
	for range 1500 {
		l := g.tree(g.IntN(30), g.expr)
		s, _ := tree.PrintExpr(l)
		tokens, _ := scan.Scan(s)
		for i, tok := range tokens {
			if tok.Text != "(" || i > 0 && touches(tokens, i) && (tokens[i-1].Kind == api.TokName || tokens[i-1].Kind == api.TokWord) {
				continue
			}
			left := withoutPair(tokens, i)
			if again, f := tree.ParseExpr(left); f == (api.Fault{}) && sameNodes(again, l) {
				t.Fatalf("%q has parentheses that are not needed: %q", s, left)
			}
		}
	}
}

// withoutPair returns the tokens of a text without an opening parenthesis and the one that belongs to it.
func withoutPair(tokens []api.Token, open int) string {
	depth, end := 0, open
	for end = open; ; end++ {
		switch tokens[end].Text {
		case "(":
			depth++
		case ")":
			depth--
		}
		if depth == 0 {
			break
		}
	}
	var words []string
	for i, tok := range tokens {
		if i != open && i != end {
			words = append(words, tok.Text)
		}
	}
	return strings.Join(words, " ")
}
