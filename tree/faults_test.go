package tree_test

import (
	"strings"
	"testing"

	"trestle/api"
	"trestle/tree"
)

// B1: faults with their lines, nothing beside them.
func TestParseFaults(t *testing.T) {
	for src, want := range map[string]api.Fault{
		// Those of the scanner, ahead of all others.
		"INTERFACE A;\n!":                  {Err: api.ErrChar, At: 2},
		"END\n007":                         {Err: api.ErrNumber, At: 2},
		"END\n\nthirteenBytes":             {Err: api.ErrLong, At: 3},
		"END (*":                           {Err: api.ErrOpen, At: 1},
		"END\n\"\"":                        {Err: api.ErrText, At: 2},
		"END" + strings.Repeat(" ", 20000): {Err: api.ErrLimit},
		// What ends too early.
		"INTERFACE":                             {Err: api.ErrParse, At: 1},
		"UNSAFE\nGENERIC\n\n":                   {Err: api.ErrParse, At: 2},
		"INTERFACE A;\nEXCEPTION E;\n(* ;\n *)": {Err: api.ErrParse, At: 2},
		"INTERFACE A;\nEND A":                   {Err: api.ErrParse, At: 2},
		"INTERFACE A; END A.\nINTERFACE\nB":     {Err: api.ErrParse, At: 3},
		"MODULE A;\nBEGIN\nx":                   {Err: api.ErrParse, At: 3},
		// What does not fit.
		"x":                                                                  {Err: api.ErrParse, At: 1},
		"\nINTERFACE A; END A.\nEND":                                         {Err: api.ErrParse, At: 3},
		"INTERFACE A; END A.\n.":                                             {Err: api.ErrParse, At: 2},
		"GENERIC\nUNSAFE INTERFACE A; END A.":                                {Err: api.ErrParse, At: 2},
		"INTERFACE\nEND; END END.":                                           {Err: api.ErrParse, At: 2},
		"INTERFACE A; END\nB.":                                               {Err: api.ErrParse, At: 2},
		"INTERFACE A; END\nEND.":                                             {Err: api.ErrParse, At: 2},
		"INTERFACE A\n(B); END A.":                                           {Err: api.ErrParse, At: 2},
		"GENERIC INTERFACE A\n; END A.":                                      {Err: api.ErrParse, At: 2},
		"GENERIC INTERFACE A(\n); END A.":                                    {Err: api.ErrParse, At: 2},
		"GENERIC INTERFACE A(B)\n= G(A) END A.":                              {Err: api.ErrParse, At: 2},
		"INTERFACE A\nEXPORTS B; END A.":                                     {Err: api.ErrParse, At: 2},
		"MODULE A EXPORTS\n; END A.":                                         {Err: api.ErrParse, At: 2},
		"INTERFACE A = G\nEND A.":                                            {Err: api.ErrParse, At: 2},
		"INTERFACE A = G(\n) END A.":                                         {Err: api.ErrParse, At: 2},
		"INTERFACE A = G(B)\n; END A.":                                       {Err: api.ErrParse, At: 2},
		"INTERFACE A = G(B,\n) END A.":                                       {Err: api.ErrParse, At: 2},
		"INTERFACE A = G(B) END\nG.":                                         {Err: api.ErrParse, At: 2},
		"INTERFACE A; IMPORT\n; END A.":                                      {Err: api.ErrParse, At: 2},
		"INTERFACE A; EXCEPTION E;\nIMPORT B; END A.":                        {Err: api.ErrParse, At: 2},
		"INTERFACE A;\nBEGIN END A.":                                         {Err: api.ErrParse, At: 2},
		"INTERFACE A; PROCEDURE p()\n= BEGIN END p; END A.":                  {Err: api.ErrParse, At: 2},
		"MODULE A; PROCEDURE p()\n; END A.":                                  {Err: api.ErrParse, At: 2},
		"MODULE A; PROCEDURE p() = BEGIN END\nq; END A.":                     {Err: api.ErrParse, At: 2},
		"MODULE A; PROCEDURE p() = BEGIN END\n; END A.":                      {Err: api.ErrParse, At: 2},
		"MODULE A; PROCEDURE p(x: T;\n) = BEGIN END p; END A.":               {Err: api.ErrParse, At: 2},
		"MODULE A; PROCEDURE p(x: T,\ny: T) = BEGIN END p; END A.":           {Err: api.ErrParse, At: 1},
		"MODULE A; PROCEDURE p() RAISES {E,\n} = BEGIN END p; END A.":        {Err: api.ErrParse, At: 2},
		"MODULE A; PROCEDURE p() RAISES {}\n: T = BEGIN END p; END A.":       {Err: api.ErrParse, At: 2},
		"MODULE A; PROCEDURE p() RAISES {ALERTED\n.E} = BEGIN END p; END A.": {Err: api.ErrParse, At: 2},
		"INTERFACE A; CONST c\n:= 1; END A.":                                 {Err: api.ErrParse, At: 2},
		"INTERFACE A; CONST A\n.c = 1; END A.":                               {Err: api.ErrParse, At: 2},
		"INTERFACE A; VAR x\n= T; END A.":                                    {Err: api.ErrParse, At: 2},
		"INTERFACE A; EXCEPTION E\n, F; END A.":                              {Err: api.ErrParse, At: 2},
		"INTERFACE A; EXCEPTION\nALERTED; END A.":                            {Err: api.ErrParse, At: 2},
		"INTERFACE A; REVEAL T\n:= U; END A.":                                {Err: api.ErrParse, At: 2},
		"INTERFACE A; TYPE T =\nRECORD x: T; END; END A.":                    {Err: api.ErrParse, At: 2},
		"INTERFACE A; TYPE T =\nARRAY OF T; END A.":                          {Err: api.ErrParse, At: 2},
		"INTERFACE A; TYPE T = BRANDED\nREF T; END A.":                       {Err: api.ErrParse, At: 2},
		"INTERFACE A; TYPE T = BRANDED \"b\"\nOBJECT END; END A.":            {Err: api.ErrParse, At: 2},
		"INTERFACE A; TYPE T = ROOT BRANDED \"b\"\nREF T; END A.":            {Err: api.ErrParse, At: 2},
		"INTERFACE A; TYPE T = REFANY\nOBJECT END; END A.":                   {Err: api.ErrParse, At: 2},
		"INTERFACE A; TYPE T = ROOT OBJECT END\nOBJECT END; END A.":          {Err: api.ErrParse, At: 2},
		"INTERFACE A; TYPE T = ROOT OBJECT x: T\nEND; END A.":                {Err: api.ErrParse, At: 2},
		"INTERFACE A; TYPE T = ROOT OBJECT OVERRIDES\nMETHODS END; END A.":   {Err: api.ErrParse, At: 2},
		"INTERFACE A; TYPE T = ROOT OBJECT OVERRIDES m\n(); END; END A.":     {Err: api.ErrParse, At: 2},
		"INTERFACE A; TYPE T = ROOT OBJECT METHODS m() :=\n(p); END; END A.": {Err: api.ErrParse, At: 2},
		"INTERFACE A; TYPE T = [1\n, 2]; END A.":                             {Err: api.ErrParse, At: 2},
		"INTERFACE A; TYPE T = A.B\n.C; END A.":                              {Err: api.ErrParse, At: 2},
		"MODULE A; BEGIN\n; END A.":                                          {Err: api.ErrParse, At: 2},
		"MODULE A; BEGIN PUT 1;\nEND A.":                                     {Err: api.ErrParse, At: 2},
		"MODULE A; BEGIN PUT 1\nPUT 2 END A.":                                {Err: api.ErrParse, At: 2},
		"MODULE A; BEGIN x\n; END A.":                                        {Err: api.ErrParse, At: 2},
		"MODULE A; BEGIN x.y\nEND A.":                                        {Err: api.ErrParse, At: 2},
		"MODULE A; BEGIN (x + y)\n:= 1 END A.":                               {Err: api.ErrParse, At: 2},
		"MODULE A; BEGIN f(x)\n:= 1 END A.":                                  {Err: api.ErrParse, At: 2},
		"MODULE A; BEGIN 5\n:= 1 END A.":                                     {Err: api.ErrParse, At: 2},
		"MODULE A; BEGIN NEW(T)\n:= 1 END A.":                                {Err: api.ErrParse, At: 2},
		"MODULE A; BEGIN\n-f() END A.":                                       {Err: api.ErrParse, At: 2},
		"MODULE A; BEGIN (-f())\nEND A.":                                     {Err: api.ErrParse, At: 2},
		"MODULE A; BEGIN f()\n+ 1 END A.":                                    {Err: api.ErrParse, At: 2},
		"MODULE A; BEGIN x :=\n:= 1 END A.":                                  {Err: api.ErrParse, At: 2},
		"MODULE A; BEGIN VAR x: T\nEND A.":                                   {Err: api.ErrParse, At: 2},
		"MODULE A; BEGIN VAR x: T\n= 1 END A.":                               {Err: api.ErrParse, At: 2},
		"MODULE A; BEGIN IF a THEN ELSE\nELSIF END END A.":                   {Err: api.ErrParse, At: 2},
		"MODULE A; BEGIN IF a\nDO END END A.":                                {Err: api.ErrParse, At: 2},
		"MODULE A; BEGIN WHILE a\nTHEN END END A.":                           {Err: api.ErrParse, At: 2},
		"MODULE A; BEGIN TRY\nEND END A.":                                    {Err: api.ErrParse, At: 2},
		"MODULE A; BEGIN TRY FINALLY\nELSE END END A.":                       {Err: api.ErrParse, At: 2},
		"MODULE A; BEGIN TRY EXCEPT\nE => END END A.":                        {Err: api.ErrParse, At: 2},
		"MODULE A; BEGIN TRY EXCEPT ELSE\n| E => END END A.":                 {Err: api.ErrParse, At: 2},
		"MODULE A; BEGIN TRY EXCEPT | E\n(x) => END END A.":                  {Err: api.ErrParse, At: 2},
		"MODULE A; BEGIN TYPECASE x OF | T (\nA.x) => END END A.":            {Err: api.ErrParse, At: 2},
		"MODULE A; BEGIN TYPECASE x OF | T (x\n.y) => END END A.":            {Err: api.ErrParse, At: 2},
		"MODULE A; BEGIN TYPECASE x OF |\nALERTED => END END A.":             {Err: api.ErrParse, At: 2},
		"MODULE A; BEGIN WAIT m\nEND A.":                                     {Err: api.ErrParse, At: 2},
		"MODULE A; BEGIN PUT 1\n, 2 END A.":                                  {Err: api.ErrParse, At: 2},
		"MODULE A; BEGIN PUT\nEND A.":                                        {Err: api.ErrParse, At: 2},
		"MODULE A; BEGIN RAISE\n1 END A.":                                    {Err: api.ErrParse, At: 2},
		"MODULE A; IMPORT B; BEGIN PUT B.\n1 END A.":                         {Err: api.ErrParse, At: 2},
		// What the grammar makes, but is not well-formed: the line of the unit's first token.
		"\nMODULE A;\nBEGIN TRY EXCEPT END END A.":                        {Err: api.ErrTree, At: 2},
		"INTERFACE A; END A.\n\nUNSAFE\nMODULE A; TYPE T <: ROOT; END A.": {Err: api.ErrTree, At: 3},
		"INTERFACE A;\nTYPE T <: REF T; END A.":                           {Err: api.ErrTree, At: 1},
		"INTERFACE A; TYPE T <: INTEGER; END A.":                          {Err: api.ErrTree, At: 1},
		"INTERFACE A; TYPE T = REF RECORD END; END A.":                    {Err: api.ErrTree, At: 1},
		"MODULE A; BEGIN TYPECASE x OF END END A.":                        {Err: api.ErrTree, At: 1},
		"GENERIC MODULE A(B) EXPORTS C; END A.":                           {Err: api.ErrTree, At: 1},
		"GENERIC INTERFACE A(B, B); END A.":                               {Err: api.ErrTree, At: 1},
		"MODULE A EXPORTS B, B; END A.":                                   {Err: api.ErrTree, At: 1},
		"INTERFACE A; IMPORT B, C; IMPORT B; END A.":                      {Err: api.ErrTree, At: 1},
		// The first of several: what does not fit, then too many units, then trees.
		"MODULE A; TYPE T <: ROOT; END A.\nx":                                            {Err: api.ErrParse, At: 2},
		"MODULE A; TYPE T <: ROOT; END A.\nINTERFACE B; TYPE T <: NULL; END B.":          {Err: api.ErrTree, At: 1},
		strings.Repeat("INTERFACE A; END A.\n", 31):                                      {Err: api.ErrLimit},
		"MODULE A; TYPE T <: ROOT; END A." + strings.Repeat("INTERFACE A; END A.\n", 30): {Err: api.ErrLimit},
		strings.Repeat("INTERFACE A; END A.\n", 31) + "x":                                {Err: api.ErrParse, At: 32},
	} {
		if l, f := tree.Parse(src); f != want || len(l) != 0 {
			t.Errorf("Parse(%.200q): %d units, %+v; expected %+v", src, len(l), f, want)
		}
	}
}

// B1: no tokens are no units.
func TestParseNothing(t *testing.T) {
	for _, src := range []string{"", " \n", "(* x\n *)", "<* x *>"} {
		if l, f := tree.Parse(src); len(l) != 0 || f != (api.Fault{}) {
			t.Errorf("Parse(%q): %+v, %+v", src, l, f)
		}
	}
	if s, e := tree.Print(nil); s != "" || e != api.OK {
		t.Errorf("Print of no units: %q, error %d", s, e)
	}
}

// B4: faults of parts alone.
func TestPartFaults(t *testing.T) {
	many := strings.Repeat("-", 400) + "x"
	for src, want := range map[string]api.Fault{
		"":                               {Err: api.ErrParse, At: 1},
		"\n\n(* x *)":                    {Err: api.ErrParse, At: 1},
		"x\n!":                           {Err: api.ErrChar, At: 2},
		"x\ny":                           {Err: api.ErrParse, At: 2},
		"x\n+":                           {Err: api.ErrParse, At: 2},
		"x\n+\n\n":                       {Err: api.ErrParse, At: 2},
		"x\n;":                           {Err: api.ErrParse, At: 2},
		"\nx.1":                          {Err: api.ErrParse, At: 2},
		"a.b[1]^\n(2)":                   {Err: api.ErrParse, At: 2},
		"(f)\n(1)":                       {Err: api.ErrParse, At: 2},
		"(a.b)\n(1)":                     {Err: api.ErrParse, At: 2},
		"f(1)\n(2)":                      {Err: api.ErrParse, At: 2},
		"f[1]\n(2)":                      {Err: api.ErrParse, At: 2},
		"a^\n(2)":                        {Err: api.ErrParse, At: 2},
		"5\n(2)":                         {Err: api.ErrParse, At: 2},
		"NIL\n(2)":                       {Err: api.ErrParse, At: 2},
		"NEW(T)\n(2)":                    {Err: api.ErrParse, At: 2},
		"f(\n,1)":                        {Err: api.ErrParse, At: 2},
		"f(1,\n)":                        {Err: api.ErrParse, At: 2},
		"a = \nNOT b":                    {Err: api.ErrParse, At: 2},
		"a < \nNOT b":                    {Err: api.ErrParse, At: 2},
		"-\nNOT b":                       {Err: api.ErrParse, At: 2},
		"+\n1":                           {Err: api.ErrParse, At: 1},
		"NEW\nT":                         {Err: api.ErrParse, At: 2},
		"NEW(T\nOF)":                     {Err: api.ErrParse, At: 2},
		"NEW(\n1)":                       {Err: api.ErrParse, At: 2},
		"NEW(T, 1\n, 2)":                 {Err: api.ErrParse, At: 2},
		"NARROW(x\n)":                    {Err: api.ErrParse, At: 2},
		"NARROW(x,\n1)":                  {Err: api.ErrParse, At: 2},
		"LOOPHOLE(\nREF T":               {Err: api.ErrParse, At: 2},
		"NUMBER(\n)":                     {Err: api.ErrParse, At: 2},
		"FORK(x\n, y)":                   {Err: api.ErrParse, At: 2},
		"TRUE\nFALSE":                    {Err: api.ErrParse, At: 2},
		"INTEGER":                        {Err: api.ErrParse, At: 1},
		"(x\n]":                          {Err: api.ErrParse, At: 2},
		"x.\nEND":                        {Err: api.ErrParse, At: 2},
		"x = \"b\"":                      {Err: api.ErrParse, At: 1},
		"\n" + many:                      {Err: api.ErrTree, At: 1},
		"f(1, 2, 3, 4, 5, 6,\n7)":        {Err: api.ErrTree, At: 1},
		"\nNEW(REF RECORD END)":          {Err: api.ErrTree, At: 1},
		strings.Repeat(" ", 20001):       {Err: api.ErrLimit},
		strings.Repeat("x+", 300) + "\n": {Err: api.ErrParse, At: 1},
	} {
		if l, f := tree.ParseExpr(src); f != want || len(l) != 0 {
			t.Errorf("ParseExpr(%.40q): %s, %+v; expected %+v", src, shown(l), f, want)
		}
	}
	for src, want := range map[string]api.Fault{
		"":                         {Err: api.ErrParse, At: 1},
		"(* x *)\n":                {Err: api.ErrParse, At: 1},
		"T\n007":                   {Err: api.ErrNumber, At: 2},
		"T\n;":                     {Err: api.ErrParse, At: 2},
		"\n(T)":                    {Err: api.ErrParse, At: 2},
		"REF\n\n":                  {Err: api.ErrParse, At: 1},
		"A.\nINTEGER":              {Err: api.ErrParse, At: 2},
		"RECORD\nx: T; END":        {Err: api.ErrParse, At: 1},
		"REF RECORD x: T\nEND":     {Err: api.ErrParse, At: 2},
		"REF ARRAY\nT":             {Err: api.ErrParse, At: 2},
		"[1..2\n..3]":              {Err: api.ErrParse, At: 2},
		"[1]":                      {Err: api.ErrParse, At: 1},
		"BRANDED\nb REF T":         {Err: api.ErrParse, At: 2},
		"MUTEX OBJECT":             {Err: api.ErrParse, At: 1},
		"1":                        {Err: api.ErrParse, At: 1},
		"\nREF RECORD END":         {Err: api.ErrTree, At: 1},
		"\n[1.." + many + "]":      {Err: api.ErrTree, At: 1},
		strings.Repeat(" ", 20001): {Err: api.ErrLimit},
	} {
		if l, f := tree.ParseType(src); f != want || len(l) != 0 {
			t.Errorf("ParseType(%.40q): %s, %+v; expected %+v", src, shown(l), f, want)
		}
	}
}

// P2.4: the lines before one that has ErrParse are units, or end too early, or have ErrTree or ErrLimit.
func TestLinesBeforeWhatDoesNotFit(t *testing.T) {
	g := newGenerator(31)
	others := anyWords()
	for found := 0; found < 1500; {
		w := &loose{generator: g}
		for _, u := range g.units(3, 20) {
			w.unit(u)
		}
		words := changed(g, w.words, others)
		lines := []string{""}
		for _, word := range words {
			if g.IntN(4) == 0 {
				lines = append(lines, "")
			}
			lines[len(lines)-1] += " " + word
		}
		_, f := tree.Parse(strings.Join(lines, "\n"))
		if f.Err != api.ErrParse {
			continue
		}
		found++
		before := strings.Join(lines[:f.At-1], "\n")
		last := 1 + strings.Count(strings.TrimRight(before, "\n"), "\n")
		_, b := tree.Parse(before)
		tooEarly := b == api.Fault{Err: api.ErrParse, At: last} && !misfits(before)
		if b.Err != api.OK && b.Err != api.ErrTree && b != (api.Fault{Err: api.ErrLimit}) && !tooEarly {
			t.Fatalf("%+v, and the lines before: %+v, of\n%s", f, b, strings.Join(lines, "\n"))
		}
	}
}

// misfits reports whether a token of a text does not fit. What only ends too early has its fault behind it, if something stands there that fits nowhere but behind BRANDED.
func misfits(src string) bool {
	_, f := tree.Parse(src + "\n\n\"b\"")
	return f.Err == api.ErrParse && f.At <= 1+strings.Count(src, "\n")
}
