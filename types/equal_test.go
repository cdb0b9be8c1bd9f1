package types_test

import (
	"math/rand/v2"
	"slices"
	"testing"

	"trestle/api"
	"trestle/types"
)

func integerRecord(head, tail int) api.Ty {
	return api.Ty{Kind: api.KdRecord, Parts: []api.Part{{Name: "head", Type: head}, {Name: "tail", Type: tail}}}
}

func refTo(i int) api.Ty { return api.Ty{Kind: api.KdRef, Parts: []api.Part{{Type: i}}} }

// lists is the graph of the chapter's examples.
func lists() api.Graph {
	return api.Graph{{Kind: api.KdInteger}, integerRecord(0, 1), integerRecord(0, 3), integerRecord(0, 2), refTo(1), {Kind: api.KdRange, High: 9}, integerRecord(5, 6)}
}

func mustEqual(t *testing.T, g api.Graph, a, b int) bool {
	t.Helper()
	is, e := types.Equal(g, a, b)
	if e != api.OK {
		t.Fatalf("Equal of %d and %d of %+v: %v", a, b, g, e)
	}
	return is
}

// The chapter's table of examples.
func TestExamples(t *testing.T) {
	g := lists()
	if !mustEqual(t, g, 1, 2) || !mustEqual(t, g, 2, 3) || mustEqual(t, g, 1, 6) {
		t.Error("Equal")
	}
	if ok, e := types.CheckEqual(g, [][2]int{{1, 2}, {0, 0}, {1, 3}}); !ok || e != api.OK {
		t.Errorf("CheckEqual: %v, %v", ok, e)
	}
	if ok, e := types.CheckEqual(g, [][2]int{{1, 2}, {0, 0}}); ok || e != api.OK {
		t.Errorf("CheckEqual without the last one: %v, %v", ok, e)
	}
	for _, c := range []struct {
		b    int
		way  []int
		told bool
	}{{6, []int{0}, true}, {4, nil, true}, {2, nil, false}} {
		if way, told, e := types.Apart(g, 1, c.b); !slices.Equal(way, c.way) || told != c.told || e != api.OK {
			t.Errorf("Apart of 1 and %d: %v, %v, %v", c.b, way, told, e)
		}
	}
	for _, c := range []struct {
		way  []int
		want bool
	}{{[]int{0}, true}, {[]int{1, 0}, true}, {[]int{1}, false}} {
		if ok, e := types.CheckApart(g, 1, 6, c.way); ok != c.want || e != api.OK {
			t.Errorf("CheckApart of %v: %v, %v", c.way, ok, e)
		}
	}
	if l, e := types.Classes(g); !slices.Equal(l, []int{0, 1, 1, 1, 4, 5, 6}) || e != api.OK {
		t.Errorf("Classes: %v, %v", l, e)
	}
	if m, to, e := types.Merge(g); len(m) != 5 || !slices.Equal(to, []int{0, 1, 1, 1, 2, 3, 4}) || e != api.OK {
		t.Errorf("Merge: %v, %v, %v", m, to, e)
	}
	for a, want := range map[int][]int{2: {0, 2, 3}, 4: {0, 1, 4}} {
		if l, e := types.Reach(g, a); !slices.Equal(l, want) || e != api.OK {
			t.Errorf("Reach of %d: %v, %v", a, l, e)
		}
	}
	if s, e := types.Text(g, 3); s != "10 - head:1 tail:0\n1\n" || e != api.OK {
		t.Errorf("Text: %q, %v", s, e)
	}
	if p, e := types.Print(g, 0); p != types.Digest("1\n") || e != api.OK || types.Digest("") != "T00000000045H" {
		t.Errorf("Print: %s, %v", p, e)
	}
	g[5] = api.Ty{Kind: api.KdRange, Low: 3, High: 2}
	if i, e := types.Check(g); i != 5 || e != api.ErrGraph {
		t.Errorf("Check: %d, %v", i, e)
	}
}

// full returns an object type that has something of all.
func full() api.Ty {
	return api.Ty{
		Kind: api.KdObject, Super: root, Branded: true, Brand: "b", Parts: []api.Part{{Name: "f"}, {Name: "g", Type: 1}},
		Methods: []api.Method{
			{Name: "m", Sig: api.Sig{Args: []int{0, 1}, Result: 2, Raises: []string{"A.E", "I.E"}}, Proc: "M.p"},
			{Name: "n", Sig: api.Sig{Result: -1}},
		},
		Overs: []api.Over{{Name: "o", Proc: "M.q"}, {Name: "p", Proc: "M.q"}},
	}
}

// changes are what may be different in two types, at once or behind a reference.
func changes() []func(*api.Ty) {
	return []func(*api.Ty){
		func(t *api.Ty) { t.Branded, t.Brand = false, "" },
		func(t *api.Ty) { t.Brand = "" },
		func(t *api.Ty) { t.Brand = "c" },
		func(t *api.Ty) { t.Super = 5 },
		func(t *api.Ty) { t.Parts = t.Parts[:1] },
		func(t *api.Ty) { t.Parts = append(t.Parts, api.Part{Name: "h"}) },
		func(t *api.Ty) { t.Parts[1].Name = "h" },
		func(t *api.Ty) { t.Parts[1].Type = 0 },
		func(t *api.Ty) { slices.Reverse(t.Parts) },
		func(t *api.Ty) { t.Methods = t.Methods[:1] },
		func(t *api.Ty) { t.Methods[0].Name = "x" },
		func(t *api.Ty) { slices.Reverse(t.Methods) },
		func(t *api.Ty) { t.Methods[0].Sig.Args[0] = 1 },
		func(t *api.Ty) { t.Methods[0].Sig.Args[1] = 0 },
		func(t *api.Ty) { t.Methods[0].Sig.Args = []int{0} },
		func(t *api.Ty) { t.Methods[0].Sig.Args = []int{0, 1, 2} },
		func(t *api.Ty) { t.Methods[0].Sig.Args = []int{0, 1, 2}; t.Methods[0].Sig.Result = -1 },
		func(t *api.Ty) { t.Methods[0].Sig.Result = 0 },
		func(t *api.Ty) { t.Methods[0].Sig.Result = -1 },
		func(t *api.Ty) { t.Methods[1].Sig.Result = 0 },
		func(t *api.Ty) { t.Methods[0].Sig.Raises = []string{"A.E"} },
		func(t *api.Ty) { t.Methods[0].Sig.Raises = []string{"A.E", "ALERTED"} },
		func(t *api.Ty) { t.Methods[0].Proc = "" },
		func(t *api.Ty) { t.Methods[0].Proc = "M.q" },
		func(t *api.Ty) { t.Overs = t.Overs[:1] },
		func(t *api.Ty) { t.Overs[0].Name = "x" },
		func(t *api.Ty) { t.Overs[1].Proc = "M.p" },
		func(t *api.Ty) { slices.Reverse(t.Overs) },
		func(t *api.Ty) {
			*t = api.Ty{Kind: api.KdRecord, Branded: true, Brand: "b", Parts: t.Parts}
		},
	}
}

// C2, C7: whatever is different in two types, they are not the same, and not equal; nor are those that refer to them.
func TestDifferences(t *testing.T) {
	itself := func(i int) int { return i }
	for k, change := range changes() {
		changed := mapped(full(), itself)
		change(&changed)
		g := append(copyOf(ends), full(), mapped(full(), itself), changed, refTo(7), refTo(8), refTo(9))
		if i, e := types.Check(g); e != api.OK {
			t.Fatalf("change %d: Check: %d, %v", k, i, e)
		}
		if !mustEqual(t, g, 7, 8) || !mustEqual(t, g, 10, 11) || !types.Same(g[7:8], g[8:9]) {
			t.Errorf("change %d: not the same without it", k)
		}
		if mustEqual(t, g, 7, 9) || mustEqual(t, g, 9, 7) || mustEqual(t, g, 10, 12) || types.Same(g[7:8], g[9:10]) || types.Same(g[9:10], g[7:8]) {
			t.Errorf("change %d: the same", k)
		}
	}
	for i, x := range ends {
		for j, y := range ends {
			if mustEqual(t, ends, i, j) != (i == j) || types.Same(api.Graph{x}, api.Graph{y}) != (i == j) {
				t.Errorf("Equal of %d and %d", i, j)
			}
		}
	}
	g := api.Graph{{Kind: 3, Low: 1, High: 2}, {Kind: 3, Low: 1, High: 3}, {Kind: 3, Low: 2, High: 2}, {Kind: 4}, {Kind: 13, Opaque: "I.T", Super: 3}, {Kind: 13, Opaque: "I.U", Super: 3}, {Kind: 6}, {Kind: 13, Opaque: "I.T", Super: 6}, {Kind: 13, Opaque: "I.T", Super: 3}}
	for _, pair := range [][2]int{{0, 1}, {0, 2}, {1, 2}, {4, 5}, {4, 7}} {
		if mustEqual(t, g, pair[0], pair[1]) {
			t.Errorf("Equal of %v", pair)
		}
	}
	if !mustEqual(t, g, 4, 8) {
		t.Error("Equal of two opaque types")
	}
}

// C2, P3.2: held against the definition; it is an equivalence.
func TestEqualByDefinition(t *testing.T) {
	same, others := 0, 0
	graphs(3, 1500, func(_ *rand.Rand, g api.Graph) {
		far := measured(g)
		for a := range g {
			for b := range g {
				is := mustEqual(t, g, a, b)
				if is != (far[a][b] < 0) {
					t.Fatalf("Equal of %d and %d of %+v: %v", a, b, g, is)
				}
				if is != mustEqual(t, g, b, a) || a == b && !is {
					t.Fatalf("Equal of %d and %d of %+v is no equivalence", a, b, g)
				}
				if !is {
					others++
					continue
				}
				same++
				if skeleton(g[a]) != skeleton(g[b]) {
					t.Fatalf("%d and %d of %+v do not agree at once", a, b, g)
				}
				for k, r := range refsOf(g[a]) {
					if !mustEqual(t, g, r, refsOf(g[b])[k]) {
						t.Fatalf("the references %d of %d and %d of %+v are not the same", k, a, b, g)
					}
				}
			}
		}
	})
	if same < 20000 || others < 20000 {
		t.Errorf("only %d the same, and %d others", same, others)
	}
}

// isSetByDefinition tells whether pairs are a set as said.
func isSetByDefinition(g api.Graph, l [][2]int) bool {
	for _, p := range l {
		if min(p[0], p[1]) < 0 || max(p[0], p[1]) >= len(g) || skeleton(g[p[0]]) != skeleton(g[p[1]]) {
			return false
		}
		others := refsOf(g[p[1]])
		for k, r := range refsOf(g[p[0]]) {
			if !slices.Contains(l, [2]int{r, others[k]}) {
				return false
			}
		}
	}
	return true
}

// closure returns the pairs to which ways lead from one, in any order.
func closure(r *rand.Rand, g api.Graph, first [2]int) [][2]int {
	l := [][2]int{first}
	for at := 0; at < len(l); at++ {
		others := refsOf(g[l[at][1]])
		for k, x := range refsOf(g[l[at][0]]) {
			if next := [2]int{x, others[k]}; !slices.Contains(l, next) {
				l = append(l, next)
			}
		}
	}
	r.Shuffle(len(l), func(i, j int) { l[i], l[j] = l[j], l[i] })
	return l
}

// C2, P3.2: sets, sets that lack one, sets with others; what is accepted is the same.
func TestCheckEqual(t *testing.T) {
	accepted := 0
	graphs(4, 2000, func(r *rand.Rand, g api.Graph) {
		far := measured(g)
		for range 4 {
			a, b := r.IntN(len(g)), r.IntN(len(g))
			l := [][2]int{{a, b}}
			if far[a][b] < 0 {
				l = closure(r, g, [2]int{a, b})
				if ok, e := types.CheckEqual(g, l); !ok || e != api.OK {
					t.Fatalf("CheckEqual of all pairs from %d and %d of %+v: %v, %v", a, b, g, ok, e)
				}
			}
			switch at := r.IntN(len(l)); r.IntN(5) {
			case 0:
				l = slices.Delete(l, at, at+1)
			case 1:
				l = append(l, l[at])
			case 2:
				l[at][r.IntN(2)] = r.IntN(len(g))
			case 3:
				l[at][0], l[at][1] = l[at][1], l[at][0]
			case 4:
				l = append(l, [2]int{oneOf(r, -1, len(g), r.IntN(len(g))), r.IntN(len(g))})
			}
			ok, e := types.CheckEqual(g, l)
			if ok != isSetByDefinition(g, l) || e != api.OK {
				t.Fatalf("CheckEqual of %v of %+v: %v, %v", l, g, ok, e)
			}
			for _, p := range l {
				if ok && !mustEqual(t, g, p[0], p[1]) {
					t.Fatalf("CheckEqual of %v of %+v: %v are not the same", l, g, p)
				}
			}
			if ok {
				accepted++
			}
		}
	})
	if accepted < 1000 {
		t.Errorf("only %d accepted", accepted)
	}
}

// C2: lists of no pairs, of as many as may be, and of others than indices.
func TestCheckEqualLists(t *testing.T) {
	g := lists()
	many := slices.Repeat([][2]int{{0, 0}}, 2000)
	for _, c := range []struct {
		name string
		l    [][2]int
		want bool
		err  api.Errno
	}{
		{"no pairs", nil, true, api.OK},
		{"2000 pairs", many, true, api.OK},
		{"2001 pairs", append(slices.Clone(many), [2]int{0, 0}), false, api.ErrLimit},
		{"2001 pairs, one of them no types", append(slices.Clone(many), [2]int{-1, 0}), false, api.ErrLimit},
		{"2000 pairs, the last of which is not the same", append(slices.Clone(many[1:]), [2]int{0, 5}), false, api.OK},
		{"the number of the types", [][2]int{{0, 7}}, false, api.OK},
		{"the number of the types on the left", [][2]int{{7, 0}}, false, api.OK},
		{"minus one", [][2]int{{-1, 0}}, false, api.OK},
		{"minus one on the right", [][2]int{{0, -1}}, false, api.OK},
		{"no types, twice", [][2]int{{0, 0}, {-1, -1}}, false, api.OK},
		{"the least numbers", [][2]int{{-1 << 63, -1 << 63}}, false, api.OK},
		{"a pair that does not agree at once", [][2]int{{0, 5}}, false, api.OK},
		{"a pair the other way around", [][2]int{{1, 2}, {0, 0}, {3, 1}}, false, api.OK},
	} {
		if ok, e := types.CheckEqual(g, c.l); ok != c.want || e != c.err {
			t.Errorf("CheckEqual of %s: %v, %v", c.name, ok, e)
		}
	}
	if ok, e := types.CheckEqual(nil, nil); !ok || e != api.OK {
		t.Errorf("CheckEqual of no types: %v, %v", ok, e)
	}
	if ok, e := types.CheckEqual(nil, [][2]int{{0, 0}}); ok || e != api.OK {
		t.Errorf("CheckEqual of a pair of no types: %v, %v", ok, e)
	}
}

// C7: words.
func TestWord(t *testing.T) {
	g := copyOf(ends)
	for kind := range uint8(13) {
		g = append(g, least(kind+1))
	}
	for kind := range uint8(13) {
		is, e := types.Word(g, len(ends)+int(kind))
		if is != (kind+1 <= 3) || e != api.OK {
			t.Errorf("Word of the Kind %d: %v, %v", kind+1, is, e)
		}
	}
}

// C7: graphs, any ones, are equal if all in them is, whether lists are nil or empty.
func TestSame(t *testing.T) {
	r := random(5)
	for range 5000 {
		g := anyGraph(r)
		c := copyOf(g)
		for i := range c {
			for k := range c[i].Methods {
				c[i].Methods[k].Sig.Args = append([]int{}, c[i].Methods[k].Sig.Args...)
				c[i].Methods[k].Sig.Raises = append([]string{}, c[i].Methods[k].Sig.Raises...)
			}
			c[i].Parts = append([]api.Part{}, c[i].Parts...)
			c[i].Methods = append([]api.Method{}, c[i].Methods...)
			c[i].Overs = append([]api.Over{}, c[i].Overs...)
		}
		if !types.Same(g, c) || !types.Same(c, g) {
			t.Fatalf("Same of %+v and a copy", g)
		}
		if len(g) == 0 {
			continue
		}
		if types.Same(g, g[:len(g)-1]) || types.Same(g[:len(g)-1], g) {
			t.Fatalf("Same of %+v without the last one", g)
		}
		i := r.IntN(len(g))
		change := oneOf(r, plainChanges()...)
		change(&c[i])
		if types.Same(g, c) || types.Same(c, g) {
			t.Fatalf("Same of %+v and %+v", g, c)
		}
	}
	if !types.Same(nil, api.Graph{}) || types.Same(nil, api.Graph{{}}) {
		t.Error("Same of no types")
	}
}

// plainChanges change each type, whatever it has.
func plainChanges() []func(*api.Ty) {
	return []func(*api.Ty){
		func(t *api.Ty) { t.Kind++ },
		func(t *api.Ty) { t.Low++ },
		func(t *api.Ty) { t.High-- },
		func(t *api.Ty) { t.Branded = !t.Branded },
		func(t *api.Ty) { t.Brand += "x" },
		func(t *api.Ty) { t.Opaque += "x" },
		func(t *api.Ty) { t.Super++ },
		func(t *api.Ty) { t.Parts = append(t.Parts, api.Part{}) },
		func(t *api.Ty) { t.Methods = append(t.Methods, api.Method{}) },
		func(t *api.Ty) { t.Overs = append(t.Overs, api.Over{}) },
	}
}
