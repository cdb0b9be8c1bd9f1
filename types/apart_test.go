package types_test

import (
	"math/rand/v2"
	"slices"
	"testing"

	"trestle/api"
	"trestle/types"
)

// leadsApart tells whether a way tells two types apart.
func leadsApart(g api.Graph, a, b int, way []int) bool {
	for _, k := range way {
		x, y := refsOf(g[a]), refsOf(g[b])
		if skeleton(g[a]) != skeleton(g[b]) || k < 0 || k >= len(x) {
			return false
		}
		a, b = x[k], y[k]
	}
	return skeleton(g[a]) != skeleton(g[b])
}

// C3, P3.3: the least of the shortest ways, which CheckApart accepts; there is one exactly if two types are not the same.
func TestApartByDefinition(t *testing.T) {
	lengths := map[int]int{}
	graphs(6, 1500, func(_ *rand.Rand, g api.Graph) {
		far := measured(g)
		for a := range g {
			for b := range g {
				way, told, e := types.Apart(g, a, b)
				want, is := far.way(g, a, b)
				if !slices.Equal(way, want) || told != is || e != api.OK {
					t.Fatalf("Apart of %d and %d of %+v: %v, %v, %v; want %v", a, b, g, way, told, e, want)
				}
				if told == mustEqual(t, g, a, b) {
					t.Fatalf("Apart and Equal of %d and %d of %+v", a, b, g)
				}
				if ok, e := types.CheckApart(g, a, b, way); ok != told || e != api.OK {
					t.Fatalf("CheckApart of %d, %d and %v of %+v: %v, %v", a, b, way, g, ok, e)
				}
				lengths[len(way)]++
			}
		}
	})
	for length := range 4 {
		if lengths[length] < 50 {
			t.Errorf("only %d ways of length %d", lengths[length], length)
		}
	}
}

// C3, P3.3: any ways; those that lead nowhere, and those of types that are the same, tell nothing.
func TestCheckApart(t *testing.T) {
	accepted := 0
	graphs(7, 4000, func(r *rand.Rand, g api.Graph) {
		for range 10 {
			a, b := r.IntN(len(g)), r.IntN(len(g))
			way, _, _ := types.Apart(g, a, b)
			if len(way) == 0 || r.IntN(3) == 0 {
				way = nil
				for range r.IntN(5) {
					way = append(way, oneOf(r, 0, 0, 1, 1, 2, 3, 4, -1))
				}
			}
			if len(way) > 0 && r.IntN(3) == 0 {
				way[r.IntN(len(way))] = oneOf(r, 0, 1, 2, -1)
			}
			ok, e := types.CheckApart(g, a, b, way)
			if ok != leadsApart(g, a, b, way) || e != api.OK {
				t.Fatalf("CheckApart of %d, %d and %v of %+v: %v, %v", a, b, way, g, ok, e)
			}
			if ok && mustEqual(t, g, a, b) {
				t.Fatalf("CheckApart of %d, %d and %v of %+v: they are the same", a, b, way, g)
			}
			if ok && len(way) > 0 {
				accepted++
			}
		}
	})
	if accepted < 500 {
		t.Errorf("only %d accepted", accepted)
	}
	g := lists()
	for _, way := range [][]int{{2}, {-1}, {0, 0}, {1, 1, 1, 2}, {1 << 62}, {-1 << 63}, {1, -1}} {
		if ok, e := types.CheckApart(g, 1, 6, way); ok || e != api.OK {
			t.Errorf("CheckApart of the way %v, which leads nowhere: %v, %v", way, ok, e)
		}
	}
	long := slices.Repeat([]int{1}, 5000)
	if ok, _ := types.CheckApart(g, 1, 6, append(long, 0)); !ok {
		t.Error("CheckApart of a long way")
	}
	if ok, _ := types.CheckApart(g, 1, 2, append(long, 0)); ok {
		t.Error("CheckApart of a long way of types that are the same")
	}
	if ok, _ := types.CheckApart(g, 1, 4, []int{0}); ok {
		t.Error("CheckApart of a way on which types do not agree at once")
	}
}

// C3: ways through each kind of reference, in their order.
func TestApartReferences(t *testing.T) {
	itself := func(i int) int { return i }
	for k, change := range []func(*api.Ty){
		func(t *api.Ty) { t.Super = 5 },
		func(t *api.Ty) { t.Parts[0].Type = 1 },
		func(t *api.Ty) { t.Parts[1].Type = 0 },
		func(t *api.Ty) { t.Methods[0].Sig.Args[0] = 1 },
		func(t *api.Ty) { t.Methods[0].Sig.Args[1] = 0 },
		func(t *api.Ty) { t.Methods[0].Sig.Result = 0 },
		func(t *api.Ty) { t.Methods[1].Sig.Args[0] = 1 },
	} {
		one := full()
		one.Methods[1].Sig.Args = []int{0}
		other := mapped(one, itself)
		change(&other)
		g := append(copyOf(ends), one, other)
		if way, told, e := types.Apart(g, 7, 8); !slices.Equal(way, []int{k}) || !told || e != api.OK {
			t.Errorf("Apart by the reference %d: %v, %v, %v", k, way, told, e)
		}
	}
	g := api.Graph{{Kind: 6}, {Kind: 7}, {Kind: 13, Opaque: "I.T", Super: 0}, {Kind: 13, Opaque: "I.T", Super: 1}}
	if way, told, e := types.Apart(g, 2, 3); !slices.Equal(way, []int{0}) || !told || e != api.OK {
		t.Errorf("Apart of opaque types: %v, %v, %v", way, told, e)
	}
}

// C3: a way as long as there are types, and pairs of two long circles.
func TestApartLong(t *testing.T) {
	g := make(api.Graph, 400)
	for i := range g {
		g[i] = refTo(i + 1)
	}
	g[399] = api.Ty{Kind: api.KdInteger}
	if way, told, _ := types.Apart(g, 0, 1); !slices.Equal(way, make([]int, 398)) || !told {
		t.Errorf("Apart of a line: %v, %v", len(way), told)
	}
	if l, _ := types.Classes(g); len(l) != 400 || !slices.IsSorted(l) || l[399] != 399 {
		t.Errorf("Classes of a line: %v", l)
	}
	for i := range g {
		g[i] = refTo((i + 1) % 199)
		if i >= 199 {
			g[i] = refTo(199 + (i-198)%201)
		}
	}
	if !mustEqual(t, g, 0, 199) {
		t.Error("Equal of two circles")
	}
	g[398] = api.Ty{Kind: api.KdInteger}
	if way, told, _ := types.Apart(g, 0, 199); len(way) != 199 || !told {
		t.Errorf("Apart of a circle and a line: %v, %v", len(way), told)
	}
}
