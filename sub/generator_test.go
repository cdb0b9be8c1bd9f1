package sub_test

import (
	"math/rand/v2"
	"slices"

	"trestle/api"
)

// random returns a source of chance that is the same in each run.
func random(seed uint64) *rand.Rand { return rand.New(rand.NewPCG(seed, 4)) }

func oneOf[T any](r *rand.Rand, l ...T) T { return l[r.IntN(len(l))] }

var symbols = []string{"I.T", "I.T", "I.U", "M.T"}

// graphOf returns a well-formed graph of some types, in any order.
func graphOf(r *rand.Rand, n int) api.Graph {
	g := api.Graph{plain(oneOf[uint8](r, 4, 6, 6, 7, 8))}
	for len(g) < n {
		g = append(g, typeOf(r, g, n))
	}
	order := r.Perm(n)
	shuffled := make(api.Graph, n)
	for i, t := range moved(g, func(i int) int { return order[i] }) {
		shuffled[order[i]] = t
	}
	return shuffled
}

// typeOf returns a type for a graph of n types, whose Super is one of those that are there.
func typeOf(r *rand.Rand, g api.Graph, n int) api.Ty {
	t := api.Ty{Kind: oneOf[uint8](r, 1, 2, 3, 3, 3, 4, 5, 6, 7, 8, 9, 10, 11, 12, 12, 12, 12, 12, 13, 13, 13, 13, 13)}
	if t.Kind == 3 {
		t.Low = r.IntN(8) - 3
		t.High = t.Low + r.IntN(6)
	}
	if t.Kind >= 9 && t.Kind <= 12 && r.IntN(2) == 0 {
		t.Branded, t.Brand = true, oneOf(r, "", "b")
	}
	if t.Kind == 9 || t.Kind == 11 {
		t.Parts = []api.Part{{Type: r.IntN(n)}}
	}
	if t.Kind == 10 || t.Kind == 12 {
		t.Parts = partsOf(r, n, t.Kind == 10)
	}
	if t.Kind == 12 && r.IntN(2) == 0 {
		for _, name := range oneOf(r, []string{"a"}, []string{"x", "a"}, []string{"b", "y"}) {
			t.Methods = append(t.Methods, api.Method{Name: name, Sig: api.Sig{Args: []int{r.IntN(n)}, Result: oneOf(r, -1, r.IntN(n))}})
		}
	}
	if t.Kind == 13 {
		t.Opaque = oneOf(r, symbols...)
	}
	if hasSuper(t) {
		if !slices.ContainsFunc(g, func(u api.Ty) bool { return mayBeSuper(u.Kind, t.Kind) }) {
			return plain(api.KdRoot)
		}
		for t.Super = r.IntN(len(g)); !mayBeSuper(g[t.Super].Kind, t.Kind); t.Super = r.IntN(len(g)) {
		}
	}
	return t
}

func mayBeSuper(above, below uint8) bool {
	return slices.Contains([]uint8{6, 7, 8, 12, 13}, above) || above == 4 && below == 13
}

func partsOf(r *rand.Rand, n int, some bool) []api.Part {
	if !some && r.IntN(3) == 0 {
		return nil
	}
	var parts []api.Part
	for _, name := range oneOf(r, []string{"a"}, []string{"b"}, []string{"b", "a"}, []string{"c", "d", "a"}) {
		parts = append(parts, api.Part{Name: name, Type: r.IntN(n)})
	}
	return parts
}

// unfolded returns a graph with several copies of the types of another one, each of which refers to any copies of what it referred to.
func unfolded(r *rand.Rand, g api.Graph) api.Graph {
	var of []int
	for i := range g {
		of = append(of, slices.Repeat([]int{i}, 1+r.IntN(2))...)
	}
	r.Shuffle(len(of), func(i, j int) { of[i], of[j] = of[j], of[i] })
	var u api.Graph
	for _, i := range of {
		u = append(u, moved(g[i:i+1], func(i int) int {
			at := r.IntN(len(of))
			for of[at] != i {
				at = r.IntN(len(of))
			}
			return at
		})...)
	}
	return u
}

// revealOf returns a revelation that is right in itself nearly always.
func revealOf(r *rand.Rand, g api.Graph) api.Reveal {
	pick := func(fits func(t api.Ty) bool) int {
		i := r.IntN(len(g))
		for tries := 0; tries < 40 && !fits(g[i]); tries++ {
			i = r.IntN(len(g))
		}
		return i
	}
	name := g[pick(func(t api.Ty) bool { return t.Kind == api.KdOpaque })].Opaque
	if name == "" || r.IntN(5) == 0 {
		name = oneOf(r, append(symbols, "N.T")...)
	}
	full := r.IntN(3) == 0
	i := pick(func(t api.Ty) bool { return t.Branded || !full && !isWord(t) && t.Kind != api.KdNull })
	return api.Reveal{Name: name, Full: full && g[i].Branded || r.IntN(20) == 0, Type: i}
}

// anyEnvironments calls f with well-formed graphs, and revelations some of which are not right.
func anyEnvironments(seed uint64, count int, f func(r *rand.Rand, g api.Graph, l []api.Reveal)) {
	r := random(seed)
	for range count {
		g := graphOf(r, 1+r.IntN(9))
		if r.IntN(3) == 0 {
			g = unfolded(r, g)
		}
		var l []api.Reveal
		for range r.IntN(5) {
			l = append(l, revealOf(r, g))
		}
		f(r, g, l)
	}
}

// environments calls f with right environments.
func environments(seed uint64, count int, f func(r *rand.Rand, m model)) {
	anyEnvironments(seed, count, func(r *rand.Rand, g api.Graph, l []api.Reveal) {
		for checkByDefinition(g, l) != api.OK {
			l = l[1:]
		}
		f(r, modelOf(g, l))
	})
}
