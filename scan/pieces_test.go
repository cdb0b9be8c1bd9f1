package scan_test

import (
	"slices"
	"strings"
	"testing"

	"trestle/api"
	"trestle/scan"
)

// A3: the rows of the table.
func TestPieces(t *testing.T) {
	for src, want := range map[string][]api.Bit{
		"": nil,
		"x := a[16_FF] (* one (* two *) *)": {
			{Kind: 1, Text: "x"}, {Kind: 6, Text: " "}, {Kind: 5, Text: ":="}, {Kind: 6, Text: " "}, {Kind: 1, Text: "a"}, {Kind: 5, Text: "["},
			{Kind: 3, Text: "16_FF"}, {Kind: 5, Text: "]"}, {Kind: 6, Text: " "}, {Kind: 7, Text: "(* one (* two *) *)"},
		},
		"1..5":        {{Kind: 3, Text: "1"}, {Kind: 5, Text: ".."}, {Kind: 3, Text: "5"}},
		"1...5":       {{Kind: 3, Text: "1"}, {Kind: 5, Text: ".."}, {Kind: 5, Text: "."}, {Kind: 3, Text: "5"}},
		"a<=b<:c":     {{Kind: 1, Text: "a"}, {Kind: 5, Text: "<="}, {Kind: 1, Text: "b"}, {Kind: 5, Text: "<:"}, {Kind: 1, Text: "c"}},
		"12ab":        {{Kind: 3, Text: "12"}, {Kind: 1, Text: "ab"}},
		"2_01;":       {{Kind: 3, Text: "2_01"}, {Kind: 5, Text: ";"}},
		"<*x*><y":     {{Kind: 8, Text: "<*x*>"}, {Kind: 5, Text: "<"}, {Kind: 1, Text: "y"}},
		"<*>*>":       {{Kind: 8, Text: "<*>*>"}},
		"<**>":        {{Kind: 8, Text: "<**>"}},
		"<*<*a*>":     {{Kind: 8, Text: "<*<*a*>"}},
		"<*(**>":      {{Kind: 8, Text: "<*(**>"}},
		"(**)":        {{Kind: 7, Text: "(**)"}},
		"(***)":       {{Kind: 7, Text: "(***)"}},
		"(*)*)":       {{Kind: 7, Text: "(*)*)"}},
		"(*\"*)\"a\"": {{Kind: 7, Text: "(*\"*)"}, {Kind: 4, Text: "\"a\""}},
		"(*<**)a":     {{Kind: 7, Text: "(*<**)"}, {Kind: 1, Text: "a"}},
		"(*!\xff\r*)": {{Kind: 7, Text: "(*!\xff\r*)"}},
		"\"(*\"":      {{Kind: 4, Text: "\"(*\""}},
		"\"a\"\"b\"":  {{Kind: 4, Text: "\"a\""}, {Kind: 4, Text: "\"b\""}},
		" \t\n\n ":    {{Kind: 6, Text: " \t\n\n "}},
		"ENDx END":    {{Kind: 1, Text: "ENDx"}, {Kind: 6, Text: " "}, {Kind: 2, Text: "END"}},
		"END1END":     {{Kind: 1, Text: "END1END"}},
		"==>:==*)":    {{Kind: 5, Text: "="}, {Kind: 5, Text: "=>"}, {Kind: 5, Text: ":="}, {Kind: 5, Text: "="}, {Kind: 5, Text: "*"}, {Kind: 5, Text: ")"}},
	} {
		if got := mustPieces(t, src); !slices.Equal(got, want) {
			t.Errorf("Pieces(%q): %v", src, got)
		}
	}
}

// A3: each word and each sign is a piece of its own, and so it is between others.
func TestPieceOfEachWordAndSign(t *testing.T) {
	for _, w := range scan.Words() {
		if got := mustPieces(t, "a "+w); len(got) != 3 || got[2] != (api.Bit{Kind: api.TokWord, Text: w}) {
			t.Errorf("the word %q: %v", w, got)
		}
	}
	for _, s := range scan.Signs() {
		if got := mustPieces(t, "a"+s+"b"); len(got) != 3 || got[1] != (api.Bit{Kind: api.TokSign, Text: s}) {
			t.Errorf("the sign %q: %v", s, got)
		}
	}
}

// A3, A4: all functions that read a source return its fault, and nothing else.
func TestFaults(t *testing.T) {
	for src, want := range map[string]api.Fault{
		"!":                                   {Err: api.ErrChar, At: 1},
		">":                                   {Err: api.ErrChar, At: 1},
		"a\r\n":                               {Err: api.ErrChar, At: 1},
		"a\n\n\x00":                           {Err: api.ErrChar, At: 3},
		"(*\n\n*)\n_":                         {Err: api.ErrChar, At: 4},
		"é":                                   {Err: api.ErrChar, At: 1},
		"4_3_2":                               {Err: api.ErrChar, At: 1},
		"x\n007":                              {Err: api.ErrNumber, At: 2},
		"16_":                                 {Err: api.ErrNumber, At: 1},
		"16_ff":                               {Err: api.ErrNumber, At: 1},
		"1000000001":                          {Err: api.ErrNumber, At: 1},
		"2_" + strings.Repeat("0", 31):        {Err: api.ErrNumber, At: 1},
		"2_12\n!":                             {Err: api.ErrNumber, At: 1},
		"thirteenBytes":                       {Err: api.ErrLong, At: 1},
		"PROCEDUREPROCEDURE":                  {Err: api.ErrLong, At: 1},
		"\n(*":                                {Err: api.ErrOpen, At: 2},
		"(*)":                                 {Err: api.ErrOpen, At: 1},
		"(* (* *)":                            {Err: api.ErrOpen, At: 1},
		"(*(*)*)":                             {Err: api.ErrOpen, At: 1},
		"\n(*\n\n!":                           {Err: api.ErrOpen, At: 2},
		"<*":                                  {Err: api.ErrOpen, At: 1},
		"<*>":                                 {Err: api.ErrOpen, At: 1},
		"\n<*\n>":                             {Err: api.ErrOpen, At: 2},
		"\"":                                  {Err: api.ErrText, At: 1},
		"\"\"":                                {Err: api.ErrText, At: 1},
		"\"ab":                                {Err: api.ErrText, At: 1},
		"\"a\nb\"":                            {Err: api.ErrText, At: 1},
		"\n\"a\tb\"":                          {Err: api.ErrText, At: 2},
		"\"\x7f\"":                            {Err: api.ErrText, At: 1},
		"\"" + strings.Repeat("a", 21) + "\"": {Err: api.ErrText, At: 1},
		"a!007":                               {Err: api.ErrChar, At: 1},
		"007!":                                {Err: api.ErrNumber, At: 1},
		strings.Repeat("!", 20001):            {Err: api.ErrLimit},
	} {
		if l, f := scan.Pieces(src); f != want || len(l) != 0 {
			t.Errorf("Pieces(%.40q): %d pieces, %v", src, len(l), f)
		}
		if l, f := scan.Scan(src); f != want || len(l) != 0 {
			t.Errorf("Scan(%.40q): %d tokens, %v", src, len(l), f)
		}
		if s, f := scan.Bare(src); f != want || s != "" {
			t.Errorf("Bare(%.40q): %d bytes, %v", src, len(s), f)
		}
	}
}

// A3: what is just within the bounds.
func TestWithinLimits(t *testing.T) {
	for src, count := range map[string]int{
		strings.Repeat(" ", 20000):                              1,
		strings.Repeat("(", 20000):                              20000,
		strings.Repeat("(*", 5000) + strings.Repeat("*)", 5000): 1,
		"<*" + strings.Repeat("*", 19996) + "*>":                1,
		strings.Repeat("n", 12):                                 1,
		"2_" + strings.Repeat("0", 30):                          1,
		"1000000000":                                            1,
		"\"" + strings.Repeat("~", 20) + "\"":                   1,
		strings.Repeat("\n", 19999) + "x":                       2,
	} {
		if bits := mustPieces(t, src); len(bits) != count {
			t.Errorf("Pieces(%.40q): %d", src, len(bits))
		}
	}
	if l, f := scan.Scan(strings.Repeat("\n", 19999) + "!"); len(l) != 0 || f != (api.Fault{Err: api.ErrChar, At: 20000}) {
		t.Errorf("a fault on the last line: %v", f)
	}
}

// A3: each byte alone, and each two bytes, as the patterns have them.
func TestPiecesOfTwoBytes(t *testing.T) {
	for i := range 256 {
		for j := range 256 {
			compareWithTable(t, string([]byte{byte(i), byte(j)}))
		}
		compareWithTable(t, string([]byte{byte(i)}))
	}
}

// A3: sources of fragments, as the patterns have them.
func TestPiecesByTable(t *testing.T) {
	r := random(1)
	for range 20000 {
		compareWithTable(t, source(r, 5))
		compareWithTable(t, goodSource(r, 20))
	}
}

func compareWithTable(t *testing.T, src string) {
	t.Helper()
	bits, f := scan.Pieces(src)
	if want, fault := byTable(src); !slices.Equal(bits, want) || f != fault {
		t.Fatalf("Pieces(%q): %v, %v; the table: %v, %v", src, bits, f, want, fault)
	}
}

// A3: tokens with their lines.
func TestScan(t *testing.T) {
	l, f := scan.Scan("x := a[16_FF] (* one\n(* two *) *)\nEND.\"b\"\n\n<*\n*>y")
	want := []api.Token{
		{Kind: api.TokName, Text: "x", Line: 1}, {Kind: api.TokSign, Text: ":=", Line: 1}, {Kind: api.TokName, Text: "a", Line: 1},
		{Kind: api.TokSign, Text: "[", Line: 1}, {Kind: api.TokNumber, Text: "16_FF", Line: 1}, {Kind: api.TokSign, Text: "]", Line: 1},
		{Kind: api.TokWord, Text: "END", Line: 3}, {Kind: api.TokSign, Text: ".", Line: 3}, {Kind: api.TokText, Text: "\"b\"", Line: 3},
		{Kind: api.TokName, Text: "y", Line: 6},
	}
	if !slices.Equal(l, want) || f != (api.Fault{}) {
		t.Errorf("Scan: %v, %v", l, f)
	}
	if l, f := scan.Scan(" (* *)\n<* *>"); len(l) != 0 || f != (api.Fault{}) {
		t.Errorf("Scan without tokens: %v, %v", l, f)
	}
}

// A4: blanks in the place of comments and pragmas.
func TestBare(t *testing.T) {
	for src, want := range map[string]string{
		"":                   "",
		"a(*b*)c":            "a     c",
		"a(*b\n*)c<*d*>":     "a   \n  c     ",
		"(*é*)x":             "      x",
		"\t(*\t*)\t":         "\t     \t",
		"\"(*\"x":            "\"(*\"x",
		"(*(*\n*)\n*)<*\n*>": "    \n  \n    \n  ",
	} {
		if got, f := scan.Bare(src); got != want || f != (api.Fault{}) {
			t.Errorf("Bare(%q): %q, %v", src, got, f)
		}
	}
}

// P1.2: the pieces make up the source, each is one alone, and blanks are not divided.
func TestNothingIsLost(t *testing.T) {
	r := random(2)
	for range 5000 {
		src := goodSource(r, 30)
		bits := mustPieces(t, src)
		if joined(bits) != src {
			t.Fatalf("the pieces of %q: %v", src, bits)
		}
		for i, bit := range bits {
			if alone := mustPieces(t, bit.Text); !slices.Equal(alone, []api.Bit{bit}) {
				t.Fatalf("the piece %v of %q, alone: %v", bit, src, alone)
			}
			if i > 0 && bit.Kind == api.BitBlank && bits[i-1].Kind == api.BitBlank {
				t.Fatalf("two blanks in %q: %v", src, bits)
			}
		}
	}
}

// P1.3: Bare keeps bytes, lines and tokens, and has no comments and pragmas.
func TestBareKeeps(t *testing.T) {
	r := random(3)
	for range 5000 {
		src := goodSource(r, 30)
		bare, f := scan.Bare(src)
		if f != (api.Fault{}) || len(bare) != len(src) {
			t.Fatalf("Bare(%q): %q, %v", src, bare, f)
		}
		for i := range len(src) {
			if (src[i] == '\n') != (bare[i] == '\n') {
				t.Fatalf("Bare(%q): %q has other lines", src, bare)
			}
		}
		before, _ := scan.Scan(src)
		if after, f := scan.Scan(bare); !slices.Equal(before, after) || f != (api.Fault{}) {
			t.Fatalf("Bare(%q): the tokens %v, %v", src, after, f)
		}
		for _, bit := range mustPieces(t, bare) {
			if bit.Kind == api.BitComment || bit.Kind == api.BitPragma {
				t.Fatalf("Bare(%q): %q has %v", src, bare, bit)
			}
		}
	}
}

// P1.6: a blank, a comment or a pragma in the place of another one leaves all other pieces.
func TestExchange(t *testing.T) {
	others := map[uint8][]string{
		api.BitBlank:   {" ", "\n", "\t \n "},
		api.BitComment: {"(**)", "(* (* 1 *) \n *)", "(*\"!*)"},
		api.BitPragma:  {"<**>", "<*>\n*>", "<* (* \xff*>"},
	}
	r := random(4)
	for range 3000 {
		bits := mustPieces(t, goodSource(r, 15))
		for i, bit := range bits {
			for _, other := range others[bit.Kind] {
				want := slices.Clone(bits)
				want[i].Text = other
				if got := mustPieces(t, joined(want)); !slices.Equal(got, want) {
					t.Fatalf("%q in the place of %q: %v", other, bit.Text, got)
				}
			}
		}
	}
}
