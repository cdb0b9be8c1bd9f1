package sub_test

import (
	"math/rand/v2"
	"slices"
	"testing"

	"trestle/api"
	"trestle/sub"
	"trestle/types"
)

// expectLikewise holds an environment against another one, in which types have other indices, and such as are the same may be one.
func expectLikewise(t *testing.T, m, other model, to []int) {
	t.Helper()
	v, w := open(t, m.g, m.l...), open(t, other.g, other.l...)
	all := func(l []int) []int {
		var moved []int
		for _, i := range l {
			if !slices.Contains(moved, to[i]) {
				moved = append(moved, to[i])
			}
		}
		return moved
	}
	place := func(f found) found {
		if f.e == api.OK {
			f.owner = to[f.owner]
		}
		return f
	}
	for a := range m.g {
		above, _ := v.Above(a)
		otherAbove, e := w.Above(to[a])
		line, _ := v.Line(a)
		otherLine, _ := w.Line(to[a])
		if e != api.OK || !slices.Equal(slices.Sorted(slices.Values(all(above))), otherAbove) || !slices.Equal(all(line), otherLine) {
			t.Fatalf("%d in %+v with %+v, %d in %+v with %+v", a, m.g, m.l, to[a], other.g, other.l)
		}
		for _, name := range []string{"a", "b", "c", "x"} {
			if place(field(v, a, name)) != field(w, to[a], name) || place(method(v, a, name)) != method(w, to[a], name) {
				t.Fatalf("%q of %d in %+v with %+v, of %d in %+v with %+v", name, a, m.g, m.l, to[a], other.g, other.l)
			}
		}
		for b := range m.g {
			expectPairLikewise(t, m, other, [2]*sub.Env{v, w}, [2]int{a, b}, to)
		}
	}
}

func expectPairLikewise(t *testing.T, m, other model, v [2]*sub.Env, pair [2]int, to []int) {
	t.Helper()
	a, b := pair[0], pair[1]
	l, is := derive(t, v[0], a, b)
	otherL, otherIs := derive(t, v[1], to[a], to[b])
	i, otherI := join(t, v[0], a, b), join(t, v[1], to[a], to[b])
	assign, e := v[0].Assign(a, b)
	otherAssign, otherE := v[1].Assign(to[a], to[b])
	isLike := is == otherIs && is == below(t, v[1], to[a], to[b]) && (i < 0) == (otherI < 0) && assign == otherAssign && e == otherE
	if i >= 0 && otherI >= 0 {
		isLike = isLike && below(t, v[1], to[i], otherI) && below(t, v[1], otherI, to[i])
	}
	if len(m.g) == len(other.g) {
		isLike = isLike && len(l) == len(otherL)
	}
	if !isLike {
		t.Fatalf("%d, %d in %+v with %+v, %d, %d in %+v with %+v", a, b, m.g, m.l, to[a], to[b], other.g, other.l)
	}
}

// movedReveals returns revelations of other indices.
func movedReveals(l []api.Reveal, to []int) []api.Reveal {
	moved := slices.Clone(l)
	for n := range moved {
		moved[n].Type = to[moved[n].Type]
	}
	return moved
}

// P4.7: if the types stand in another order, all is the same, with the other indices.
func TestOtherOrder(t *testing.T) {
	anyEnvironments(41, 1500, func(r *rand.Rand, g api.Graph, l []api.Reveal) {
		to := r.Perm(len(g))
		h := make(api.Graph, len(g))
		for i, x := range moved(g, func(i int) int { return to[i] }) {
			h[to[i]] = x
		}
		k := movedReveals(l, to)
		e := sub.Check(g, l)
		if other := sub.Check(h, k); other != e {
			t.Fatalf("Check of %+v with %+v: %v; of %+v with %+v: %v", g, l, e, h, k, other)
		}
		if e == api.OK {
			expectLikewise(t, model{g: g, l: l}, model{g: h, l: k}, to)
		}
	})
}

// P4.7: if types that are the same are merged, all is the same, too.
func TestMerged(t *testing.T) {
	smaller := 0
	anyEnvironments(42, 1500, func(r *rand.Rand, g api.Graph, l []api.Reveal) {
		h, to, e := types.Merge(g)
		k := movedReveals(l, to)
		if e != api.OK || sub.Check(g, l) != sub.Check(h, k) {
			t.Fatalf("Check of %+v with %+v, and of %+v with %+v", g, l, h, k)
		}
		if sub.Check(g, l) == api.OK {
			expectLikewise(t, model{g: g, l: l}, model{g: h, l: k}, to)
			smaller += len(g) - len(h)
		}
	})
	if smaller < 500 {
		t.Errorf("%d types were merged", smaller)
	}
}
