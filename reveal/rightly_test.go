package reveal_test

import (
	"math/rand/v2"
	"slices"
	"testing"

	"trestle/api"
	"trestle/reveal"
	"trestle/types"
)

func plain(kind uint8) api.Ty { return api.Ty{Kind: kind} }

func refTo(i int) api.Ty { return api.Ty{Kind: api.KdRef, Parts: []api.Part{{Type: i}}} }

func opaqueOf(name string, super int) api.Ty {
	return api.Ty{Kind: api.KdOpaque, Opaque: name, Super: super}
}

func child(super int) api.Ty { return api.Ty{Kind: api.KdObject, Super: super} }

func fully(name string, t int) api.Reveal { return api.Reveal{Name: name, Full: true, Type: t} }

func partly(name string, t int) api.Reveal { return api.Reveal{Name: name, Type: t} }

// sample is a graph with two opaque types, one of which there is twice.
func sample() api.Graph {
	return api.Graph{
		plain(api.KdRoot), plain(api.KdInteger), opaqueOf("I.T", 0), opaqueOf("I.U", 2), child(2), refTo(2), child(3), opaqueOf("I.T", 4),
		{Kind: api.KdRecord, Parts: []api.Part{{Name: "a", Type: 7}, {Name: "b", Type: 3}, {Name: "c", Type: 1}}},
		{Kind: api.KdArray, Parts: []api.Part{{Type: 2}}},
		{Kind: api.KdRange, Low: 2, High: 3},
	}
}

func TestRightly(t *testing.T) {
	record := func(a, b int) api.Ty {
		return api.Ty{Kind: api.KdRecord, Parts: []api.Part{{Name: "a", Type: a}, {Name: "b", Type: b}, {Name: "c", Type: 1}}}
	}
	array := func(i int) api.Ty { return api.Ty{Kind: api.KdArray, Parts: []api.Part{{Type: i}}} }
	root, word, ten := plain(api.KdRoot), plain(api.KdInteger), api.Ty{Kind: api.KdRange, Low: 2, High: 3}
	byFive := api.Graph{root, word, refTo(5), opaqueOf("I.U", 5), child(5), refTo(5), child(3), refTo(5), record(5, 3), array(5), ten}
	for _, c := range []struct {
		what string
		l    []api.Reveal
		want api.Graph
	}{
		{"nothing", nil, sample()},
		{"none that is Full", []api.Reveal{partly("I.T", 5), partly("I.U", 99), partly("", -7)}, sample()},
		{"of other types", []api.Reveal{fully("I.V", 5), fully("", 1), fully("i.t", 0)}, sample()},
		{"a reference", []api.Reveal{fully("I.T", 5)}, byFive},
		{"the first one of several", []api.Reveal{partly("I.T", 6), fully("I.T", 5), fully("I.T", 6), fully("I.T", 0)}, byFive},
		{"an object type below it", []api.Reveal{fully("I.T", 4)}, api.Graph{root, word, child(4), opaqueOf("I.U", 4), child(4), refTo(4), child(3), child(4), record(4, 3), array(4), ten}},
		{"both", []api.Reveal{fully("I.U", 10), fully("I.T", 1)}, api.Graph{root, word, word, ten, child(1), refTo(1), child(10), word, record(1, 10), array(1), ten}},
		{"both, the one below the other one", []api.Reveal{fully("I.U", 4), fully("I.T", 6)}, api.Graph{root, word, child(4), child(6), child(6), refTo(6), child(4), child(4), record(6, 4), array(6), ten}},
	} {
		g, l := sample(), slices.Clone(c.l)
		got, e := reveal.Rightly(g, l)
		if e != api.OK || !types.Same(got, c.want) {
			t.Errorf("%s: %+v, %v instead of %+v", c.what, got, e, c.want)
		}
		if !types.Same(g, sample()) || !slices.Equal(l, c.l) {
			t.Errorf("%s: arguments are changed", c.what)
		}
	}
	if g, e := reveal.Rightly(nil, []api.Reveal{partly("I.T", 0)}); len(g) > 0 || e != api.OK {
		t.Errorf("no types: %+v, %v", g, e)
	}
}

func TestRightlyErrors(t *testing.T) {
	broken, circle := sample(), sample()
	broken[5].Parts[0].Type = 11
	circle[4].Super, circle[6].Super = 6, 4
	many := make(api.Graph, 401)
	for i := range many {
		many[i] = plain(api.KdRoot)
	}
	for _, c := range []struct {
		g api.Graph
		l []api.Reveal
		e api.Errno
	}{
		{broken, nil, api.ErrGraph},
		{circle, nil, api.ErrGraph},
		{many, nil, api.ErrGraph},
		{many[1:], nil, api.OK},
		{broken, []api.Reveal{fully("I.T", -1)}, api.ErrGraph},
		{sample(), []api.Reveal{fully("I.T", -1)}, api.ErrArg},
		{sample(), []api.Reveal{fully("I.T", 11)}, api.ErrArg},
		{sample(), []api.Reveal{fully("I.T", 2)}, api.ErrArg},
		{sample(), []api.Reveal{fully("I.T", 3)}, api.ErrArg},
		{sample(), []api.Reveal{fully("I.U", 7)}, api.ErrArg},
		{sample(), []api.Reveal{fully("I.T", -1<<63)}, api.ErrArg},
		// Each Full one is looked at, also those that do not count, or of which there is no opaque type.
		{sample(), []api.Reveal{fully("I.T", 5), fully("I.T", 11)}, api.ErrArg},
		{sample(), []api.Reveal{fully("I.T", 5), fully("I.T", 3)}, api.ErrArg},
		{sample(), []api.Reveal{fully("no symbol", 11)}, api.ErrArg},
		{sample(), []api.Reveal{partly("I.T", 11), partly("I.T", 2)}, api.OK},
		{nil, []api.Reveal{fully("I.T", 0)}, api.ErrArg},
		// Neither lines nor circles are asked for.
		{sample(), []api.Reveal{fully("I.T", 10), fully("I.U", 10)}, api.OK},
		{sample(), []api.Reveal{fully("I.T", 6), fully("I.U", 6)}, api.OK},
	} {
		if g, e := reveal.Rightly(c.g, c.l); e != c.e || (len(g) > 0) != (e == api.OK) {
			t.Errorf("%+v: %+v, %v instead of %v", c.l, g, e, c.e)
		}
	}
	// As many revelations as one likes.
	if _, e := reveal.Rightly(sample(), slices.Repeat([]api.Reveal{fully("I.T", 5)}, 1000)); e != api.OK {
		t.Errorf("1000 revelations: %v", e)
	}
}

// anyGraph returns a graph by chance, which is well-formed nearly always, and revelations.
func anyGraph(r *rand.Rand) (api.Graph, []api.Reveal) {
	g := api.Graph{plain(api.KdRoot)}
	n := 2 + r.IntN(8)
	name := func() string { return oneOf(r, "I.T", "I.U", "M.T") }
	for len(g) < n {
		up, any := r.IntN(len(g)), func() int { return r.IntN(n) }
		t := oneOf(r, plain(api.KdAny), plain(api.KdInteger), refTo(any()), opaqueOf(name(), up), opaqueOf(name(), up), child(up), child(up))
		if t.Kind == api.KdObject {
			for _, field := range oneOf(r, nil, []string{"a"}, []string{"b", "a"}) {
				t.Parts = append(t.Parts, api.Part{Name: field, Type: any()})
			}
			for _, method := range oneOf(r, nil, []string{"m"}, []string{"n", "m"}) {
				s := api.Sig{Result: oneOf(r, -1, any()), Raises: oneOf(r, nil, []string{"ALERTED", "I.E"})}
				for range r.IntN(3) {
					s.Args = append(s.Args, any())
				}
				t.Methods = append(t.Methods, api.Method{Name: method, Sig: s, Proc: oneOf(r, "", "I.p")})
			}
			t.Overs = oneOf(r, nil, []api.Over{{Name: "x", Proc: "I.q"}})
			t.Branded = r.IntN(2) == 0
		}
		g = append(g, t)
	}
	var l []api.Reveal
	for range r.IntN(4) {
		l = append(l, api.Reveal{Name: name(), Full: r.IntN(3) > 0, Type: r.IntN(n+1) - r.IntN(2)})
	}
	return g, l
}

// Rightly of graphs made by chance, as the chapter's definitions say.
func TestRightlyByDefinition(t *testing.T) {
	r, errors := random(21), map[api.Errno]int{}
	for range 3000 {
		g, l := anyGraph(r)
		got, e := reveal.Rightly(g, l)
		errors[e]++
		want := api.OK
		for _, x := range l {
			if x.Full && (x.Type < 0 || x.Type >= len(g) || g[x.Type].Kind == api.KdOpaque) {
				want = api.ErrArg
			}
		}
		if _, broken := types.Check(g); broken != api.OK {
			want = broken
		}
		if e != want {
			t.Fatalf("%v instead of %v, of %+v and %+v", e, want, g, l)
		}
		if e == api.OK && !types.Same(got, concreteByDefinition(g, l)) {
			t.Fatalf("%+v, of %+v and %+v", got, g, l)
		}
	}
	if errors[api.OK] < 500 || errors[api.ErrArg] < 300 || errors[api.ErrGraph] < 100 {
		t.Errorf("few of some errors: %v", errors)
	}
}
