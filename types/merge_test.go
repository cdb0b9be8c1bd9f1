package types_test

import (
	"math/rand/v2"
	"slices"
	"testing"

	"trestle/api"
	"trestle/types"
)

func mustClasses(t *testing.T, g api.Graph) []int {
	t.Helper()
	l, e := types.Classes(g)
	if e != api.OK {
		t.Fatalf("Classes of %+v: %v", g, e)
	}
	return l
}

func mustText(t *testing.T, g api.Graph, a int) string {
	t.Helper()
	s, e := types.Text(g, a)
	if e != api.OK {
		t.Fatalf("Text of %d of %+v: %v", a, g, e)
	}
	return s
}

// C4: classes held against the definition.
func TestClasses(t *testing.T) {
	graphs(8, 4000, func(_ *rand.Rand, g api.Graph) {
		if l, want := mustClasses(t, g), measured(g).classes(); !slices.Equal(l, want) {
			t.Fatalf("Classes of %+v: %v; want %v", g, l, want)
		}
	})
	if l, e := types.Classes(nil); len(l) != 0 || e != api.OK {
		t.Errorf("Classes of no types: %v, %v", l, e)
	}
}

// C4, P3.4: the graph of the classes; no two of its types are the same; texts stay; merging once more changes nothing.
func TestMerge(t *testing.T) {
	smaller := 0
	graphs(9, 1500, func(_ *rand.Rand, g api.Graph) {
		m, to, e := types.Merge(g)
		if e != api.OK || len(to) != len(g) {
			t.Fatalf("Merge of %+v: %v, %v", g, to, e)
		}
		class := measured(g).classes()
		var firsts []int
		for i, c := range class {
			if c == i {
				firsts = append(firsts, i)
			}
			if want := slices.Index(firsts, c); to[i] != want {
				t.Fatalf("Merge of %+v: %d is %d, and not %d", g, i, to[i], want)
			}
		}
		var want api.Graph
		for _, i := range firsts {
			want = append(want, mapped(g[i], func(i int) int { return to[i] }))
		}
		if !types.Same(m, want) {
			t.Fatalf("Merge of %+v: %+v; want %+v", g, m, want)
		}
		if l := mustClasses(t, m); len(slices.Compact(l)) != len(m) {
			t.Fatalf("Merge of %+v: %v are the same", g, l)
		}
		for i := range g {
			if mustText(t, g, i) != mustText(t, m, to[i]) {
				t.Fatalf("Merge of %+v: another text of %d", g, i)
			}
		}
		again, stay, e := types.Merge(m)
		if !types.Same(again, m) || e != api.OK || !slices.IsSorted(stay) || len(stay) != len(m) {
			t.Fatalf("Merge of %+v once more: %+v, %v, %v", g, again, stay, e)
		}
		if len(m) < len(g) {
			smaller++
		}
	})
	if smaller < 500 {
		t.Errorf("only %d became smaller", smaller)
	}
	if m, to, e := types.Merge(nil); len(m) != 0 || len(to) != 0 || e != api.OK {
		t.Errorf("Merge of no types: %v, %v, %v", m, to, e)
	}
}

// C5: what is reached, held against the pairs of a type with itself.
func TestReach(t *testing.T) {
	graphs(10, 2000, func(r *rand.Rand, g api.Graph) {
		a := r.IntN(len(g))
		var want []int
		for _, pair := range closure(r, g, [2]int{a, a}) {
			want = append(want, pair[0])
		}
		slices.Sort(want)
		if l, e := types.Reach(g, a); !slices.Equal(l, want) || e != api.OK {
			t.Fatalf("Reach of %d of %+v: %v, %v; want %v", a, g, l, e, want)
		}
	})
	o := full()
	o.Super, o.Parts[0].Type, o.Parts[1].Type = 6, 5, 3
	o.Methods[0].Sig = api.Sig{Args: []int{2}, Result: 1}
	g := append(copyOf(ends), o)
	if l, _ := types.Reach(g, 7); !slices.Equal(l, []int{1, 2, 3, 5, 6, 7}) {
		t.Errorf("Reach of an object: %v", l)
	}
	if l, _ := types.Reach(g, 0); !slices.Equal(l, []int{0}) {
		t.Errorf("Reach of a word: %v", l)
	}
}

// C5: two graphs, one behind the other.
func TestJoin(t *testing.T) {
	r := random(11)
	for range 1000 {
		g, h := graphOf(r, r.IntN(6)), graphOf(r, r.IntN(6))
		j, e := types.Join(g, h)
		want := copyOf(g)
		for _, x := range h {
			want = append(want, mapped(x, func(i int) int { return len(g) + i }))
		}
		if !types.Same(j, want) || e != api.OK {
			t.Fatalf("Join of %+v and %+v: %+v, %v", g, h, j, e)
		}
		if i, e := types.Check(j); i != 0 || e != api.OK {
			t.Fatalf("Join of %+v and %+v is not well-formed: %d", g, h, i)
		}
	}
}

// C5: as many types as may be, and more; and graphs that are not well-formed.
func TestJoinFaults(t *testing.T) {
	words := func(n int) api.Graph { return slices.Repeat(api.Graph{{Kind: 1}}, n) }
	bad := api.Graph{{}}
	for _, c := range []struct {
		name string
		g, h api.Graph
		size int
		err  api.Errno
	}{
		{"nothing", nil, nil, 0, api.OK},
		{"400 and none", words(400), nil, 400, api.OK},
		{"none and 400", nil, words(400), 400, api.OK},
		{"200 and 200", words(200), words(200), 400, api.OK},
		{"200 and 201", words(200), words(201), 0, api.ErrLimit},
		{"400 and 400", words(400), words(400), 0, api.ErrLimit},
		{"401 and none", words(401), nil, 0, api.ErrGraph},
		{"none and 401", nil, words(401), 0, api.ErrGraph},
		{"a bad one", bad, nil, 0, api.ErrGraph},
		{"a bad one behind", nil, bad, 0, api.ErrGraph},
		{"a bad one behind 400", words(400), bad, 0, api.ErrGraph},
		{"a bad one ahead of 400", bad, words(400), 0, api.ErrGraph},
	} {
		if j, e := types.Join(c.g, c.h); len(j) != c.size || e != c.err {
			t.Errorf("Join of %s: %d types, %v", c.name, len(j), e)
		}
	}
}

// P3.6: the order of the types of a graph changes nothing but the indices.
func TestOrder(t *testing.T) {
	graphs(12, 1000, func(r *rand.Rand, g api.Graph) {
		to := r.Perm(len(g))
		p := make(api.Graph, len(g))
		for i, x := range g {
			p[to[i]] = mapped(x, func(i int) int { return to[i] })
		}
		if i, e := types.Check(p); i != 0 || e != api.OK {
			t.Fatalf("Check of %+v in another order: %d, %v", g, i, e)
		}
		class := mustClasses(t, p)
		for a := range g {
			if mustText(t, g, a) != mustText(t, p, to[a]) {
				t.Fatalf("%+v in the order %v: another text of %d", g, to, a)
			}
			l, _ := types.Reach(g, a)
			moved, _ := types.Reach(p, to[a])
			for k := range l {
				l[k] = to[l[k]]
			}
			slices.Sort(l)
			if !slices.Equal(l, moved) {
				t.Fatalf("%+v in the order %v: Reach of %d: %v", g, to, a, moved)
			}
			for b := range g {
				way, told, _ := types.Apart(g, a, b)
				other, is, _ := types.Apart(p, to[a], to[b])
				if !slices.Equal(way, other) || told != is || told == (class[to[a]] == class[to[b]]) {
					t.Fatalf("%+v in the order %v: Apart of %d and %d: %v, %v", g, to, a, b, other, is)
				}
			}
		}
	})
}

// P3.7: a copy of a type, which refers to what it does, in the place of it somewhere, makes nothing another type.
func TestUnfolding(t *testing.T) {
	graphs(13, 1000, func(r *rand.Rand, g api.Graph) {
		a := r.IntN(len(g))
		u := append(copyOf(g), mapped(g[a], func(i int) int { return i }))
		for i, x := range u {
			u[i] = mapped(x, func(i int) int {
				if i == a && r.IntN(2) == 0 {
					return len(g)
				}
				return i
			})
		}
		if i, e := types.Check(u); i != 0 || e != api.OK {
			t.Fatalf("Check of %+v with a copy of %d: %d, %v", g, a, i, e)
		}
		if l, want := mustClasses(t, u), append(mustClasses(t, g), mustClasses(t, g)[a]); !slices.Equal(l, want) {
			t.Fatalf("%+v with a copy of %d: Classes %v; want %v", g, a, l, want)
		}
		for i := range g {
			if mustText(t, g, i) != mustText(t, u, i) {
				t.Fatalf("%+v with a copy of %d: another text of %d", g, a, i)
			}
		}
		j, e := types.Join(g, u)
		if e != api.OK || !mustEqual(t, j, a, len(g)+len(g)) || !mustEqual(t, j, a, len(g)+a) {
			t.Fatalf("%+v with a copy of %d is another one", g, a)
		}
	})
	r := random(14)
	for range 1000 {
		g := graphOf(r, 1+r.IntN(6))
		u, of := unfolded(r, g, 3)
		for i := range u {
			if mustText(t, u, i) != mustText(t, g, of[i]) {
				t.Fatalf("%+v unfolded to %+v: another text of %d", g, u, i)
			}
		}
	}
}
