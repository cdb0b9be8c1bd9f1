package types_test

import (
	"math/rand/v2"
	"slices"
	"strings"

	"trestle/api"
)

// random returns a source of chance that is the same in each run.
func random(seed uint64) *rand.Rand { return rand.New(rand.NewPCG(seed, 3)) }

func oneOf[T any](r *rand.Rand, l ...T) T { return l[r.IntN(len(l))] }

// graphOf returns a well-formed graph of some types, which have little of their own, so that many of them are the same.
func graphOf(r *rand.Rand, n int) api.Graph {
	g := make(api.Graph, n)
	var supers []int
	for i := range g {
		t := api.Ty{Kind: oneOf[uint8](r, 1, 1, 2, 3, 4, 5, 6, 6, 7, 8, 9, 9, 9, 10, 10, 10, 10, 11, 12, 12, 12, 12, 12, 13, 13)}
		if has1(t.Kind, "S") && len(supers) == 0 {
			t.Kind = 6
		}
		fill(r, &t, n)
		if has1(t.Kind, "S") {
			t.Super = oneOf(r, supers...)
		}
		if slices.Contains([]uint8{6, 7, 8, 12, 13}, t.Kind) {
			supers = append(supers, i)
		}
		g[i] = t
	}
	return g
}

// fill gives a type what its Kind has, but for the Super.
func fill(r *rand.Rand, t *api.Ty, n int) {
	switch {
	case has1(t.Kind, "N"):
		t.Low = oneOf(r, 0, 0, -1, -1000000000)
		t.High = oneOf(r, 0, 9, 1000000000)
	case has1(t.Kind, "Q"):
		t.Opaque = oneOf(r, "I.T", "I.U")
	case has1(t.Kind, "1"):
		t.Parts = []api.Part{{Type: r.IntN(n)}}
	case has1(t.Kind, "F"):
		least := 0
		if has1(t.Kind, "+") {
			least = 1
		}
		for _, name := range namesOf(r, least, 3) {
			t.Parts = append(t.Parts, api.Part{Name: name, Type: r.IntN(n)})
		}
	}
	if has1(t.Kind, "B") && r.IntN(8) == 0 {
		t.Branded, t.Brand = true, oneOf(r, "", "b", "a = b(2):3, \\")
	}
	if has1(t.Kind, "M") {
		for _, name := range namesOf(r, 0, 2) {
			t.Methods = append(t.Methods, api.Method{Name: name, Sig: sigOf(r, n), Proc: oneOf(r, "", "", "M.p", "M.q")})
		}
		for _, name := range namesOf(r, 0, 1) {
			t.Overs = append(t.Overs, api.Over{Name: name, Proc: oneOf(r, "M.p", "M.q")})
		}
	}
}

func namesOf(r *rand.Rand, least, most int) []string {
	names := []string{"a", "END", "twelveLetter", "b2"}[:3+r.IntN(2)]
	r.Shuffle(len(names), func(i, j int) { names[i], names[j] = names[j], names[i] })
	return names[:least+r.IntN(most-least+1)]
}

func sigOf(r *rand.Rand, n int) api.Sig {
	s := api.Sig{Result: oneOf(r, -1, r.IntN(n))}
	for range r.IntN(3) {
		s.Args = append(s.Args, r.IntN(n))
	}
	for _, e := range []string{"A.E", "ALERTED", "I.E"} {
		if r.IntN(4) == 0 {
			s.Raises = append(s.Raises, e)
		}
	}
	return s
}

// mapped returns a copy of a type with other indices.
func mapped(t api.Ty, to func(int) int) api.Ty {
	if has1(t.Kind, "S") {
		t.Super = to(t.Super)
	}
	t.Parts, t.Methods, t.Overs = slices.Clone(t.Parts), slices.Clone(t.Methods), slices.Clone(t.Overs)
	for i := range t.Parts {
		t.Parts[i].Type = to(t.Parts[i].Type)
	}
	for i := range t.Methods {
		s := &t.Methods[i].Sig
		s.Args, s.Raises = slices.Clone(s.Args), slices.Clone(s.Raises)
		for k := range s.Args {
			s.Args[k] = to(s.Args[k])
		}
		if s.Result >= 0 {
			s.Result = to(s.Result)
		}
	}
	return t
}

// copyOf returns a graph that shares nothing with another one.
func copyOf(g api.Graph) api.Graph {
	var c api.Graph
	for _, t := range g {
		c = append(c, mapped(t, func(i int) int { return i }))
	}
	return c
}

// unfolded returns a graph with several copies of the types of another one, each of which refers to any copies of what it referred to; and of which type each one is a copy.
func unfolded(r *rand.Rand, g api.Graph, most int) (api.Graph, []int) {
	var of []int
	for i := range g {
		of = append(of, slices.Repeat([]int{i}, 1+r.IntN(most))...)
	}
	r.Shuffle(len(of), func(i, j int) { of[i], of[j] = of[j], of[i] })
	var u api.Graph
	for _, i := range of {
		u = append(u, mapped(g[i], func(i int) int {
			for {
				if k := r.IntN(len(of)); of[k] == i {
					return k
				}
			}
		}))
	}
	return u, of
}

// deepGraph returns a graph of few Kinds, so that differences lie at the end of long ways.
func deepGraph(r *rand.Rand, n int) api.Graph {
	g := make(api.Graph, n)
	for i := range g {
		switch r.IntN(8) {
		case 0:
			g[i] = api.Ty{Kind: oneOf[uint8](r, 1, 2)}
		case 1, 2:
			g[i] = api.Ty{Kind: 9, Parts: []api.Part{{Type: r.IntN(n)}}}
		default:
			g[i] = api.Ty{Kind: 10, Parts: []api.Part{{Name: "a", Type: r.IntN(n)}, {Name: "b", Type: r.IntN(n)}}}
		}
	}
	return g
}

// graphs calls f with graphs in which many types are the same, and many nearly so.
func graphs(seed uint64, count int, f func(r *rand.Rand, g api.Graph)) {
	r := random(seed)
	for range count {
		g := graphOf(r, 1+r.IntN(7))
		if r.IntN(2) == 0 {
			g = deepGraph(r, 1+r.IntN(14))
		}
		if len(g) < 8 && r.IntN(4) > 0 {
			g, _ = unfolded(r, g, 3)
		}
		if i := r.IntN(len(g)); r.IntN(3) == 0 && has1(g[i].Kind, "M") {
			g[i].Parts = append(g[i].Parts, api.Part{Name: "more", Type: r.IntN(len(g))})
		} else if has1(g[i].Kind, "N") {
			g[i].High = 1000000000
		}
		f(r, g)
	}
}

// anyGraph returns a graph of types with any fields.
func anyGraph(r *rand.Rand) api.Graph {
	number := func() int {
		return oneOf(r, 0, 0, 0, 1, 2, r.IntN(6), -1, -2, 1000000000, 1000000001, -1000000001, 1<<63-1, -1<<63)
	}
	name := func() string {
		return oneOf(r, "", "a", "b", "a b", "I.T", "I.U", ".", "a.", "A.B.C", "ALERTED", "thirteenBytes", "1a", "\"", "\xff\n", strings.Repeat("long", 9))
	}
	g := make(api.Graph, r.IntN(5))
	for i := range g {
		t := api.Ty{Kind: oneOf(r, uint8(r.IntN(15)), 12, 13, 255), Branded: r.IntN(2) == 0}
		if r.IntN(2) == 0 {
			fill(r, &t, len(g))
		}
		for _, p := range []*int{&t.Low, &t.High, &t.Super} {
			if r.IntN(2) == 0 {
				*p = number()
			}
		}
		for _, p := range []*string{&t.Brand, &t.Opaque} {
			if r.IntN(2) == 0 {
				*p = name()
			}
		}
		if r.IntN(4) == 0 {
			t.Parts = append(t.Parts, api.Part{Name: name(), Type: number()})
		}
		if r.IntN(4) == 0 {
			t.Methods = append(t.Methods, api.Method{Name: name(), Proc: name(), Sig: api.Sig{Args: []int{number()}, Result: number(), Raises: []string{name()}}})
		}
		if r.IntN(4) == 0 {
			t.Overs = append(t.Overs, api.Over{Name: name(), Proc: name()})
		}
		g[i] = t
	}
	return g
}
