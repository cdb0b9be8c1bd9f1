package generic_test

import (
	"fmt"
	"math/rand/v2"
	"slices"
	"strings"

	"trestle/api"
	"trestle/tree"
)

// generator makes libraries by chance: of plain units, of generic ones, and of instances, most of which fit.
type generator struct{ *rand.Rand }

func pick[T any](g *generator, from ...T) T { return from[g.IntN(len(from))] }

// often is true nine times out of ten.
func (g *generator) often() bool { return g.IntN(10) > 0 }

// libraries calls f with libraries that have no fault.
func libraries(seed uint64, count int, f func(g *generator, l []api.Unit)) {
	g := &generator{rand.New(rand.NewPCG(seed, 5))}
	for range count {
		f(g, g.library())
	}
}

func (g *generator) library() []api.Unit {
	var l []api.Unit
	for _, name := range []string{"A", "B", "C"} {
		if g.often() {
			l = append(l, g.unit(false, api.UnInterface, name, nil))
		}
	}
	if g.IntN(2) == 0 {
		l = append(l, g.unit(false, api.UnModule, "M", nil))
	}
	for _, name := range []string{"G", "H"} {
		for _, kind := range []uint8{api.UnInterface, api.UnModule} {
			if g.often() {
				l = append(l, g.unit(true, kind, name, g.formals()))
			}
		}
	}
	generics := slices.Clone(l)
	for _, name := range []string{"I", "J", "K"} {
		for _, kind := range []uint8{api.UnInterface, api.UnModule} {
			if g.IntN(2) == 0 {
				l = append(l, g.instance(generics, kind, name))
			}
		}
	}
	g.Shuffle(len(l), func(i, j int) { l[i], l[j] = l[j], l[i] })
	return l
}

func (g *generator) formals() []string {
	return pick(g, []string{"E"}, []string{"E"}, []string{"E", "F"}, []string{"F", "E"}, []string{"E", "A"}, []string{"B", "E", "F"}, []string{"C", "F", "B", "E"})
}

func (g *generator) instance(l []api.Unit, kind uint8, name string) api.Unit {
	u := api.Unit{Kind: kind, Name: name, Unsafe: g.IntN(5) == 0, Of: pick(g, "G", "G", "H")}
	if g.IntN(30) == 0 {
		u.Of = pick(g, "Z", "A", "I", "J", name)
	}
	if kind == api.UnModule {
		u.Exports = pick(g, nil, []string{"A"}, []string{"E", "C"})
	}
	count := 1 + g.IntN(3)
	if at := find(l, kind, u.Of); at >= 0 && l[at].Generic && g.IntN(30) > 0 {
		count = len(l[at].Formals)
	}
	for range count {
		u.Actuals = append(u.Actuals, g.actual())
	}
	return u
}

func (g *generator) actual() string {
	if g.IntN(15) == 0 {
		return pick(g, "Z", "G", "H", "M", "E", "F")
	}
	return pick(g, "A", "B", "C", "A", "B", "C", "I", "J", "K")
}

// unit returns a plain unit, or a generic one.
func (g *generator) unit(isGeneric bool, kind uint8, name string, formals []string) api.Unit {
	imports := pick(g, nil, []string{"B"}, []string{"A", "I"}, []string{"C", "E", "A"}, []string{"J", "F"})
	qualifiers := slices.Concat(formals, formals, imports)
	if len(qualifiers) == 0 || g.IntN(5) == 0 {
		qualifiers = append(qualifiers, "Q")
	}
	if g.IntN(5) == 0 {
		imports = append(slices.Clone(imports), "N1", "N2", "N3", "N4", "N5", "N6", "N7")
	}
	var l lines
	l.add("UNSAFE ", g.IntN(5) == 0)
	l.add("GENERIC ", isGeneric)
	l.add(map[uint8]string{api.UnInterface: "INTERFACE ", api.UnModule: "MODULE "}[kind]+name, true)
	l.add("("+strings.Join(formals, ", ")+")", isGeneric)
	// All qualifiers are imported while the unit is read, so that they are read as such.
	l.add("; IMPORT A, B, C, E, F, I, J, Q;\n", true)
	g.offers(&l, kind)
	for range g.IntN(4) {
		l.add(g.filled(pick(g, uses(kind)...), qualifiers)+"\n", true)
	}
	if kind == api.UnModule && g.IntN(3) > 0 {
		l.add("BEGIN "+g.filled(body, qualifiers)+"\n", true)
	}
	u := read(l.String() + "END " + name + ".")
	u.Imports = imports
	return u
}

// lines is a text that grows.
type lines struct{ strings.Builder }

func (l *lines) add(s string, really bool) {
	if really {
		l.WriteString(s)
	}
}

// read returns the unit of a text.
func read(src string) api.Unit {
	l, f := tree.Parse(src)
	if f.Err != api.OK || len(l) != 1 {
		panic(fmt.Sprintf("%+v, of\n%s", f, src))
	}
	return l[0]
}

// offers adds declarations of the names that units ask for, most of them in the sort in which they are used.
func (g *generator) offers(l *lines, kind uint8) {
	procedure := "PROCEDURE p();"
	if kind == api.UnModule {
		procedure = "PROCEDURE p() = BEGIN END p;"
	}
	for _, decl := range []string{"TYPE T = INTEGER;", "EXCEPTION X;", procedure, "CONST x = 1;"} {
		l.add(decl+"\n", g.IntN(15) > 0)
	}
	for _, decl := range []string{"VAR T: T;", "EXCEPTION p;", "TYPE x = T;", "CONST X = 2;", "REVEAL y = T;", "VAR y: T;"} {
		l.add(decl+"\n", g.IntN(10) == 0)
	}
}

// uses returns declarations in which $ and a letter stands for a name of a sort.
func uses(kind uint8) []string {
	l := []string{
		"TYPE D = $t;",
		"TYPE D = REF RECORD a: $t; b: REF ARRAY OF $t; END;",
		"VAR d: $t := $p($v, $v) + $v;",
		"CONST d = $v + $p();",
		"REVEAL $t = BRANDED \"b\" REF $t;",
		"TYPE D = $t OBJECT a: $t; METHODS m(a: [$v..1]): $t RAISES {$e, ALERTED} := $p; n(); OVERRIDES m := $p; END;",
	}
	if kind == api.UnModule {
		return append(l, "PROCEDURE d(a: $t; b: $t) RAISES {$e} = BEGIN RAISE $e; $p($v, $p()) END d;")
	}
	return append(l, "TYPE D <: $t;", "PROCEDURE d(a: $t; b: REF $t): $t RAISES {$e, $e};")
}

const body = "TRY $p($v); x := $v; $v.m($v) EXCEPT | $e => RETURN $v | ALERTED => ELSE TYPECASE $v OF | $t (v) => $p() ELSE RAISE $e END END"

// filled returns a text with names, most of which have qualifiers.
func (g *generator) filled(src string, qualifiers []string) string {
	parts := strings.Split(src, "$")
	for i := 1; i < len(parts); i++ {
		name := map[byte]string{'t': "T", 'e': "X", 'p': "p", 'v': "x"}[parts[i][0]]
		if g.IntN(40) == 0 {
			name = pick(g, "T", "X", "p", "x", "y", "D")
		}
		if g.often() {
			name = pick(g, qualifiers...) + "." + name
		}
		parts[i] = name + parts[i][1:]
	}
	return strings.Join(parts, "")
}
