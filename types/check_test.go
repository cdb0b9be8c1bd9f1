package types_test

import (
	"math/rand/v2"
	"strings"
	"testing"

	"trestle/api"
	"trestle/types"
)

// ends are types to which others may refer: one of each Kind that has nothing.
var ends = api.Graph{{Kind: 1}, {Kind: 2}, {Kind: 4}, {Kind: 5}, {Kind: 6}, {Kind: 7}, {Kind: 8}}

const root = 4 // the index in ends

// least returns a type of a Kind with no more than it has to have.
func least(kind uint8) api.Ty {
	t := api.Ty{Kind: kind}
	if has1(kind, "Q") {
		t.Opaque = "I.T"
	}
	if has1(kind, "S") {
		t.Super = root
	}
	if has1(kind, "1") {
		t.Parts = []api.Part{{Type: 2}}
	}
	if has1(kind, "+") {
		t.Parts = []api.Part{{Name: "a", Type: 2}}
	}
	return t
}

// checkOne checks a type behind ends.
func checkOne(t api.Ty) bool {
	_, e := types.Check(append(copyOf(ends), t))
	return e == api.OK
}

// C1: what each Kind has, and must not have.
func TestCheckKinds(t *testing.T) {
	for kind := range 256 {
		_, want := has[uint8(kind)]
		if got := checkOne(least(uint8(kind))); got != want {
			t.Errorf("Check of the least type of the Kind %d: %v", kind, got)
		}
	}
	for _, c := range []struct {
		name, need string
		change     func(*api.Ty)
	}{
		{"Low", "N", func(t *api.Ty) { t.Low = -1 }},
		{"High", "N", func(t *api.Ty) { t.High = 1 }},
		{"Branded", "B", func(t *api.Ty) { t.Branded = true }},
		{"Branded, with a Brand", "B", func(t *api.Ty) { t.Branded, t.Brand = true, "b" }},
		{"a Brand alone", "none", func(t *api.Ty) { t.Brand = "b" }},
		{"Opaque", "Q", func(t *api.Ty) { t.Opaque = "I.U" }},
		{"no Opaque", "NBMnothing", func(t *api.Ty) { t.Opaque = "" }},
		{"Super", "S", func(t *api.Ty) { t.Super = 5 }},
		{"a Part without a name", "none", func(t *api.Ty) { t.Parts = append(t.Parts, api.Part{}) }},
		{"another Part", "F", func(t *api.Ty) { t.Parts = append(t.Parts, api.Part{Name: "b"}) }},
		{"a method", "M", func(t *api.Ty) { t.Methods = []api.Method{{Name: "b"}} }},
		{"an override", "M", func(t *api.Ty) { t.Overs = []api.Over{{Name: "b", Proc: "M.p"}} }},
	} {
		for kind := range has {
			x := least(kind)
			c.change(&x)
			want := strings.ContainsAny(has[kind], c.need) || strings.Contains(c.need, "nothing") && has[kind] == ""
			if got := checkOne(x); got != want {
				t.Errorf("Check of a type of the Kind %d with %s: %v", kind, c.name, got)
			}
		}
	}
}

// C1: numbers, brands and names up to their limits.
func TestCheckPlainFields(t *testing.T) {
	for _, c := range []struct {
		low, high int
		want      bool
	}{
		{0, 0, true}, {1, 0, false}, {-1000000000, 1000000000, true}, {-1000000001, 0, false}, {0, 1000000001, false},
		{1000000000, 1000000000, true}, {-1000000000, -1000000000, true}, {1000000001, 1000000001, false}, {-1000000001, -1000000001, false},
		{-1 << 63, 1<<63 - 1, false}, {1<<63 - 1, -1 << 63, false},
	} {
		if got := checkOne(api.Ty{Kind: api.KdRange, Low: c.low, High: c.high}); got != c.want {
			t.Errorf("Check of a range from %d to %d: %v", c.low, c.high, got)
		}
	}
	for brand, want := range map[string]bool{
		"": true, "b": true, " ": true, "~": true, "!": true, "#": true, "a b": true, strings.Repeat("b", 20): true,
		strings.Repeat("b", 21): false, "\x1f": false, "\"": false, "\x7f": false, "\x80": false, "é": false, "a\n": false, "\x00": false, "a\x1fb": false,
	} {
		for _, kind := range []uint8{9, 10, 11, 12} {
			x := least(kind)
			x.Branded, x.Brand = true, brand
			if got := checkOne(x); got != want {
				t.Errorf("Check of the Brand %q of the Kind %d: %v", brand, kind, got)
			}
		}
	}
	for _, c := range namesToTest() {
		if got := checkOne(api.Ty{Kind: api.KdOpaque, Opaque: c, Super: root}); got != isSymbol.MatchString(c) {
			t.Errorf("Check of an Opaque %q: %v", c, got)
		}
	}
}

func namesToTest() []string {
	return []string{
		"", "a", "A", "z", "Z", "a1", "a9", "1", "1a", "END", "REFANY", "twelveLetter", "thirteenBytes", "a_b", "a b", " a", "a ", "é", "a\xff", "a\n", "a-", "@", "[", "`", "{", "/", ":",
		"I.T", "i.t", "I.", ".T", ".", "..", "I..T", "I.T.U", "I.T.", ".I.T", "twelveLetter.twelveLetter", "thirteenBytes.T", "I.thirteenBytes", "1.T", "I.1", "I .T", "I. T", "I.T\n", "I:T", "ALERTED", "ALERTED.A", "A.ALERTED",
		"aa@", "aa[", "aa`", "aa{", "aa/", "aa:", "a0", "a.b", "Az09",
	}
}

// C1: names and symbols.
func TestNames(t *testing.T) {
	for _, s := range namesToTest() {
		if got := types.IsName(s); got != isName.MatchString(s) {
			t.Errorf("IsName(%q): %v", s, got)
		}
		if got := types.IsSymbol(s); got != isSymbol.MatchString(s) {
			t.Errorf("IsSymbol(%q): %v", s, got)
		}
	}
	for c := range 256 {
		one, two := string([]byte{byte(c)}), string([]byte{'a', byte(c)})
		if types.IsName(one) != isName.MatchString(one) || types.IsName(two) != isName.MatchString(two) {
			t.Errorf("IsName of the byte %d", c)
		}
	}
}

// C1: names of parts, methods and overrides, and how many there are.
func TestCheckLists(t *testing.T) {
	object := func(parts []api.Part, methods []api.Method, overs []api.Over) api.Ty {
		return api.Ty{Kind: api.KdObject, Super: root, Parts: parts, Methods: methods, Overs: overs}
	}
	proc := "M.p"
	for _, name := range namesToTest() {
		want := isName.MatchString(name)
		for i, x := range []api.Ty{
			{Kind: api.KdRecord, Parts: []api.Part{{Name: name}}},
			object([]api.Part{{Name: name}}, nil, nil),
			object(nil, []api.Method{{Name: name}}, nil),
			object(nil, nil, []api.Over{{Name: name, Proc: proc}}),
		} {
			if got := checkOne(x); got != want {
				t.Errorf("Check of the name %q at %d: %v", name, i, got)
			}
		}
		want = isSymbol.MatchString(name)
		if got := checkOne(object(nil, nil, []api.Over{{Name: "a", Proc: name}})); got != want {
			t.Errorf("Check of an override by %q: %v", name, got)
		}
		if got := checkOne(object(nil, []api.Method{{Name: "a", Proc: name}}, nil)); got != (want || name == "") {
			t.Errorf("Check of a method that is %q: %v", name, got)
		}
		if got := checkOne(object(nil, []api.Method{{Name: "a", Sig: api.Sig{Raises: []string{name}}}}, nil)); got != (want || name == "ALERTED") {
			t.Errorf("Check of a method that raises %q: %v", name, got)
		}
		if got := checkOne(api.Ty{Kind: api.KdRef, Parts: []api.Part{{Name: name}}}); got != (name == "") {
			t.Errorf("Check of a reference with the name %q: %v", name, got)
		}
	}
	for n := range 12 {
		var parts []api.Part
		var methods []api.Method
		var overs []api.Over
		for i := range n {
			name := "n" + string(rune('a'+i))
			parts = append(parts, api.Part{Name: name})
			methods = append(methods, api.Method{Name: name})
			overs = append(overs, api.Over{Name: name, Proc: proc})
		}
		if got := checkOne(api.Ty{Kind: api.KdRecord, Parts: parts}); got != (n >= 1 && n <= 8) {
			t.Errorf("Check of a record with %d fields: %v", n, got)
		}
		for i, x := range []api.Ty{object(parts, nil, nil), object(nil, methods, nil), object(nil, nil, overs), object(parts, methods, overs)} {
			if got := checkOne(x); got != (n <= 8) {
				t.Errorf("Check of an object with lists of %d, %d: %v", n, i, got)
			}
		}
		if n < 2 || n > 8 {
			continue
		}
		for i := 1; i < n; i++ {
			for _, x := range []api.Ty{object(parts, nil, nil), object(nil, methods, nil), object(nil, nil, overs)} {
				x = mapped(x, func(i int) int { return i })
				for k := range x.Parts {
					x.Parts[k].Name = parts[k%i].Name
				}
				for k := range x.Methods {
					x.Methods[k].Name = parts[k%i].Name
				}
				for k := range x.Overs {
					x.Overs[k].Name = parts[k%i].Name
				}
				if checkOne(x) {
					t.Errorf("Check of lists of %d with a name at %d once more", n, i)
				}
			}
		}
	}
}

// C1: signatures.
func TestCheckSignatures(t *testing.T) {
	for _, c := range []struct {
		sig  api.Sig
		want bool
	}{
		{api.Sig{}, true},
		{api.Sig{Result: -1}, true},
		{api.Sig{Result: -2}, false},
		{api.Sig{Result: 7}, true},
		{api.Sig{Result: 8}, false},
		{api.Sig{Args: []int{0, 7, 7, 0, 1, 2}}, true},
		{api.Sig{Args: make([]int, 7)}, false},
		{api.Sig{Args: []int{8}}, false},
		{api.Sig{Args: []int{-1}}, false},
		{api.Sig{Args: []int{0, 0, 8}}, false},
		{api.Sig{Raises: []string{"ALERTED"}}, true},
		{api.Sig{Raises: []string{"A.E", "A.F", "AL.E", "ALERTED", "ALERTED.A", "B.A"}}, true},
		{api.Sig{Raises: []string{"A.E", "A.F", "A.G", "A.H", "A.I", "A.J", "A.K"}}, false},
		{api.Sig{Raises: []string{"A.F", "A.E"}}, false},
		{api.Sig{Raises: []string{"A.E", "A.E"}}, false},
		{api.Sig{Raises: []string{"ALERTED", "ALERTED"}}, false},
		{api.Sig{Raises: []string{"ALERTED", "A.E"}}, false},
		{api.Sig{Raises: []string{"A.E", "A.F", "A.E"}}, false},
		{api.Sig{Raises: []string{"A.E", "ALERT"}}, false},
		{api.Sig{Raises: []string{""}}, false},
	} {
		o := api.Ty{Kind: api.KdObject, Super: root, Methods: []api.Method{{Name: "m"}, {Name: "n", Sig: c.sig}, {Name: "o"}}}
		if got := checkOne(o); got != c.want {
			t.Errorf("Check of %+v: %v", c.sig, got)
		}
	}
}

// C1: indices in types, and what may be a Super.
func TestCheckIndices(t *testing.T) {
	size := len(ends) + 1
	for _, i := range []int{-1 << 63, -2, -1, 0, size - 1, size, size + 1, 400, 1<<63 - 1} {
		want := i >= 0 && i < size
		for k, x := range []api.Ty{
			{Kind: api.KdRef, Parts: []api.Part{{Type: i}}},
			{Kind: api.KdArray, Parts: []api.Part{{Type: i}}},
			{Kind: api.KdRecord, Parts: []api.Part{{Name: "a"}, {Name: "b", Type: i}}},
			{Kind: api.KdObject, Super: root, Parts: []api.Part{{Name: "a", Type: i}}},
		} {
			if got := checkOne(x); got != want {
				t.Errorf("Check of the index %d at %d: %v", i, k, got)
			}
		}
		for _, kind := range []uint8{12, 13} {
			x := least(kind)
			x.Super = i
			if !want && checkOne(x) {
				t.Errorf("Check of the Super %d of the Kind %d", i, kind)
			}
		}
	}
	for kind := uint8(1); kind <= 13; kind++ {
		above := append(copyOf(ends), least(kind))
		for _, below := range []uint8{12, 13} {
			x := least(below)
			x.Super = len(above) - 1
			want := kind >= 6 && kind <= 8 || kind >= 12 || kind == 4 && below == 13
			i, e := types.Check(append(above, x))
			if (e == api.OK) != want || !want && i != len(above) {
				t.Errorf("Check of the Kind %d below %d: %d, %v", below, kind, i, e)
			}
		}
	}
}

// C1: how many types there are, and which one is to blame.
func TestCheckFirst(t *testing.T) {
	if i, e := types.Check(nil); i != 0 || e != api.OK {
		t.Errorf("Check of no types: %d, %v", i, e)
	}
	for n := 398; n < 404; n++ {
		g := make(api.Graph, n)
		for i := range g {
			g[i].Kind = api.KdInteger
		}
		if i, e := types.Check(g); n <= 400 && (i != 0 || e != api.OK) || n > 400 && (i != 400 || e != api.ErrGraph) {
			t.Errorf("Check of %d types: %d, %v", n, i, e)
		}
	}
	object := func(super int) api.Ty { return api.Ty{Kind: api.KdObject, Super: super} }
	opaque := func(super int) api.Ty { return api.Ty{Kind: api.KdOpaque, Opaque: "I.T", Super: super} }
	integer, end := api.Ty{Kind: api.KdInteger}, api.Ty{Kind: api.KdRoot}
	for _, c := range []struct {
		name string
		g    api.Graph
		at   int
		err  api.Errno
	}{
		{"two that are not as said", api.Graph{integer, {}, {Kind: 14}}, 1, api.ErrGraph},
		{"a circle ahead of one that is not as said", api.Graph{object(0), {}}, 1, api.ErrGraph},
		{"a Super beyond the graph", api.Graph{integer, object(2)}, 1, api.ErrGraph},
		{"a circle of one", api.Graph{integer, object(1)}, 1, api.ErrGraph},
		{"a circle of one opaque type", api.Graph{opaque(0)}, 0, api.ErrGraph},
		{"a circle of both", api.Graph{end, object(2), opaque(3), object(1)}, 1, api.ErrGraph},
		{"types below a circle", api.Graph{object(2), opaque(0), object(3), object(2)}, 2, api.ErrGraph},
		{"two circles", api.Graph{object(3), object(2), object(1), object(3)}, 1, api.ErrGraph},
		{"a line", api.Graph{object(1), opaque(2), object(3), end}, 0, api.OK},
		{"circles by other references", api.Graph{{Kind: api.KdRef, Parts: []api.Part{{Type: 0}}}, {Kind: api.KdObject, Super: 2, Parts: []api.Part{{Name: "a", Type: 1}}}, end}, 0, api.OK},
		{"a circle by a Super and a field", api.Graph{{Kind: api.KdObject, Super: 1}, {Kind: api.KdObject, Super: 2, Parts: []api.Part{{Name: "a", Type: 0}}}, end}, 0, api.OK},
		{"a circle by a method", api.Graph{{Kind: api.KdObject, Super: 1, Methods: []api.Method{{Name: "m", Sig: api.Sig{Args: []int{0}, Result: 0}}}}, end}, 0, api.OK},
	} {
		if i, e := types.Check(c.g); i != c.at || e != c.err {
			t.Errorf("Check of %s: %d, %v", c.name, i, e)
		}
	}
}

// C1: a line of Supers through all types, and circles of any length.
func TestCheckLongLines(t *testing.T) {
	line := func(n int) api.Graph {
		g := make(api.Graph, n)
		for i := range g {
			g[i] = api.Ty{Kind: api.KdObject, Super: i + 1}
		}
		g[n-1] = api.Ty{Kind: api.KdRoot}
		return g
	}
	if i, e := types.Check(line(400)); i != 0 || e != api.OK {
		t.Errorf("Check of a line: %d, %v", i, e)
	}
	for _, back := range []int{0, 1, 200, 399} {
		g := line(400)
		g[399] = api.Ty{Kind: api.KdOpaque, Opaque: "I.T", Super: back}
		if i, e := types.Check(g); i != back || e != api.ErrGraph {
			t.Errorf("Check of a line that leads back to %d: %d, %v", back, i, e)
		}
	}
}

// C1: held against the definition, for any types, and for any Supers.
func TestCheckAny(t *testing.T) {
	r := random(1)
	fit := 0
	for range 30000 {
		g := anyGraph(r)
		if r.IntN(3) == 0 {
			g = anySupers(r)
		}
		i, e := types.Check(g)
		at, want := checkByDefinition(g)
		if i != at || e != want {
			t.Fatalf("Check of %+v: %d, %v; want %d, %v", g, i, e, at, want)
		}
		if e == api.OK {
			fit++
		}
	}
	if fit < 1000 {
		t.Errorf("only %d were well-formed", fit)
	}
	graphs(2, 2000, func(_ *rand.Rand, g api.Graph) {
		if i, e := types.Check(g); i != 0 || e != api.OK {
			t.Fatalf("Check of %+v: %d, %v", g, i, e)
		}
	})
}

func anySupers(r *rand.Rand) api.Graph {
	g := make(api.Graph, 1+r.IntN(6))
	for i := range g {
		g[i] = least(oneOf[uint8](r, 6, 12, 12, 13))
		if g[i].Kind != 6 {
			g[i].Super = r.IntN(len(g))
		}
	}
	return g
}
