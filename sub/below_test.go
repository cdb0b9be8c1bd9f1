package sub_test

import (
	"math/rand/v2"
	"slices"
	"testing"

	"trestle/api"
	"trestle/sub"
)

// The chapter's examples of D2.
func TestBelowExamples(t *testing.T) {
	v, without := open(t, exampleGraph(), exampleReveal), open(t, exampleGraph())
	for _, row := range []struct {
		a, b int
		want bool
	}{{1, 0, true}, {1, 2, false}, {10, 1, true}, {0, 1, false}, {7, 6, true}, {6, 5, true}, {5, 6, true}, {8, 9, true}, {9, 3, true}, {9, 4, false}, {7, 4, true}} {
		expect(t, "Below", below(t, v, row.a, row.b), row.want)
	}
	expect(t, "Below without revelations", below(t, without, 7, 6), false)
	expect(t, "Below without revelations", below(t, without, 7, 4), true)
	l, e := v.Above(8)
	expect(t, "Above", must(t, l, e), []int{3, 4, 5, 6, 7, 8, 9})
}

// The chapter's examples of D3.
func TestDeriveExamples(t *testing.T) {
	v := open(t, exampleGraph(), exampleReveal)
	l, is := derive(t, v, 7, 6)
	expect(t, "Derive", is, true)
	expect(t, "Derive", l, []api.Step{{Rule: api.RuleSuper, To: 5}, {Rule: api.RuleReveal, To: 6}})
	toAny := []api.Step{{Rule: api.RuleSuper, To: 5}, {Rule: api.RuleSuper, To: 4}, {Rule: api.RuleAny, To: 3}}
	expect(t, "CheckDerive of another type", accepts(t, v, 7, 6, toAny...), false)
	expect(t, "CheckDerive of this type", accepts(t, v, 7, 3, toAny...), true)
}

// kinds has types of each Kind, most of them twice.
func kinds() api.Graph {
	return api.Graph{
		plain(api.KdInteger), plain(api.KdBoolean), rangeOf(0, 5), rangeOf(0, 4), rangeOf(1, 5), rangeOf(0, 5), rangeOf(-1, 6),
		plain(api.KdAny), plain(api.KdNull), plain(api.KdRoot), plain(api.KdMutex), plain(api.KdCondition),
		refTo(0), {Kind: api.KdRecord, Parts: []api.Part{{Name: "a"}}}, {Kind: api.KdArray, Parts: []api.Part{{}}},
		child(10), opaqueOf("I.T", 7), opaqueOf("I.T", 9), plain(api.KdInteger), refTo(18), plain(api.KdMutex),
		brandedChild(9, "b"), brandedChild(9, "b"), plain(api.KdNull), plain(api.KdRoot), plain(api.KdAny), opaqueOf("I.U", 16),
	}
}

// D2 and the rules: what lies below what, type by type, is as the definition says.
func TestBelowOfKinds(t *testing.T) {
	for _, l := range [][]api.Reveal{nil, {fully("I.T", 21)}, {partly("I.T", 21), partly("I.U", 12)}, {fully("I.U", 22), fully("I.T", 21), fully("N.T", 21)}} {
		holdAgainst(t, open(t, kinds(), l...), modelOf(kinds(), l))
	}
}

// holdAgainst holds what Below, Above and Derive find against the definition.
func holdAgainst(t *testing.T, v *sub.Env, m model) {
	t.Helper()
	for a := range m.g {
		if l, e := v.Above(a); e != api.OK || !slices.Equal(l, m.above(a)) {
			t.Fatalf("Above of %d in %+v with %+v: %v, %v", a, m.g, m.l, l, e)
		}
		for b := range m.g {
			if is := below(t, v, a, b); is != m.below(a, b) {
				t.Fatalf("Below of %d and %d in %+v with %+v: %v", a, b, m.g, m.l, is)
			}
			l, is := derive(t, v, a, b)
			if is != m.below(a, b) || is && (len(l) != m.far[a][b] || !m.derives(a, b, l) || !accepts(t, v, a, b, l...)) {
				t.Fatalf("Derive of %d and %d in %+v with %+v: %v, %v", a, b, m.g, m.l, l, is)
			}
		}
	}
}

// D2, D3, P4.3: in environments of all sorts, too; what Derive finds is shortest, and CheckDerive accepts it.
func TestBelowByDefinition(t *testing.T) {
	environments(11, 2500, func(r *rand.Rand, m model) {
		holdAgainst(t, open(t, m.g, m.l...), m)
	})
}

// D3, the rules: CheckDerive takes a step exactly if there is one, by all numbers of rules, types and revelations.
func TestSteps(t *testing.T) {
	holdSteps := func(v *sub.Env, m model) {
		for a := range m.g {
			for s := range m.anySteps() {
				for b := range m.g {
					if is := accepts(t, v, a, b, s); is != (b == s.To && m.leads(a, s)) {
						t.Fatalf("CheckDerive of %d and %d by %+v in %+v with %+v: %v", a, b, s, m.g, m.l, is)
					}
				}
			}
		}
	}
	holdSteps(open(t, exampleGraph(), exampleReveal), modelOf(exampleGraph(), []api.Reveal{exampleReveal}))
	environments(12, 40, func(r *rand.Rand, m model) { holdSteps(open(t, m.g, m.l...), m) })
	l := []api.Reveal{partly("I.T", 12), fully("I.T", 21), fully("I.U", 22)}
	holdSteps(open(t, kinds(), l...), modelOf(kinds(), l))
}

// D3: a step has the N 0, unless its rule has another one, and no others than there are.
func TestStepsOfAnyNumbers(t *testing.T) {
	v := open(t, exampleGraph(), partly("I.T", 4), exampleReveal)
	for _, row := range []struct {
		a    int
		s    api.Step
		want bool
	}{
		{5, api.Step{Rule: 1, To: 5}, true}, {5, api.Step{Rule: 1, To: 5, N: 1}, false}, {1, api.Step{Rule: 2, To: 0}, true}, {1, api.Step{Rule: 2, To: 0, N: 1}, false},
		{8, api.Step{Rule: 3, To: 9}, true}, {8, api.Step{Rule: 3, To: 9, N: 1}, false}, {7, api.Step{Rule: 4, To: 5}, true}, {7, api.Step{Rule: 4, To: 5, N: 1}, false},
		{5, api.Step{Rule: 5, To: 4, N: 0}, true}, {5, api.Step{Rule: 5, To: 4, N: 1}, false}, {5, api.Step{Rule: 5, To: 6, N: 1}, true}, {5, api.Step{Rule: 5, To: 6, N: 0}, false},
		{5, api.Step{Rule: 5, To: 6, N: 2}, false}, {5, api.Step{Rule: 5, To: 6, N: -1}, false}, {6, api.Step{Rule: 6, To: 5, N: 1}, true}, {6, api.Step{Rule: 6, To: 5, N: 0}, false},
		{6, api.Step{Rule: 6, To: 5, N: 2}, false}, {6, api.Step{Rule: 6, To: 5, N: -1}, false}, {4, api.Step{Rule: 6, To: 5, N: 0}, false},
		{4, api.Step{Rule: 7, To: 3}, true}, {4, api.Step{Rule: 7, To: 3, N: 1}, false},
	} {
		expect(t, "CheckDerive", accepts(t, v, row.a, row.s.To, row.s), row.want)
	}
	for _, n := range []int{-1 << 63, -1, 11, 400, 1 << 40, 1<<63 - 1} {
		for rule := range 256 {
			expect(t, "CheckDerive of a To", accepts(t, v, 8, 8, api.Step{Rule: uint8(rule), To: n}), false)
			expect(t, "CheckDerive of an N", accepts(t, v, 8, 8, api.Step{Rule: uint8(rule), To: 8, N: n}), false)
		}
	}
	for rule := range 256 {
		expect(t, "CheckDerive of a rule", accepts(t, v, 8, 8, api.Step{Rule: uint8(rule), To: 8}), rule == 1 || rule == 3)
	}
}

// D3: no steps lead from a type to itself, and at most 1000 are looked at.
func TestManySteps(t *testing.T) {
	v := open(t, exampleGraph(), exampleReveal)
	stay := func(n int) []api.Step { return slices.Repeat([]api.Step{{Rule: api.RuleSame, To: 7}}, n) }
	super := api.Step{Rule: api.RuleSuper, To: 5}
	for a := range exampleGraph() {
		for b := range exampleGraph() {
			expect(t, "CheckDerive of no steps", accepts(t, v, a, b), a == b)
		}
		l, is := derive(t, v, a, a)
		expect(t, "Derive of a type and itself", is && len(l) == 0, true)
	}
	expect(t, "CheckDerive of 1000 steps", accepts(t, v, 7, 7, stay(1000)...), true)
	expect(t, "CheckDerive of 1001 steps", accepts(t, v, 7, 7, stay(1001)...), false)
	expect(t, "CheckDerive of 1000 steps", accepts(t, v, 7, 5, append(stay(999), super)...), true)
	expect(t, "CheckDerive of 1001 steps", accepts(t, v, 7, 5, append(stay(1000), super)...), false)
	expect(t, "CheckDerive of 1000 steps, the last of which is none", accepts(t, v, 7, 7, append(stay(999), api.Step{Rule: api.RuleSuper, To: 7})...), false)
	expect(t, "CheckDerive of 1000 steps, the first of which is none", accepts(t, v, 7, 7, append([]api.Step{{Rule: api.RuleNull, To: 7}}, stay(999)...)...), false)
	expect(t, "CheckDerive of 20000 steps", accepts(t, v, 7, 7, stay(20000)...), false)
}

// D3, P4.3: CheckDerive accepts just the lists of two steps that are derivations, and none where Derive finds none, or only longer ones.
func TestLists(t *testing.T) {
	environments(13, 500, func(r *rand.Rand, m model) {
		if len(m.g) > 5 {
			return
		}
		v := open(t, m.g, m.l...)
		var steps []api.Step
		for s := range m.anySteps() {
			if s.Rule > 0 && s.To >= 0 && s.To < len(m.g) && s.N >= 0 && r.IntN(2) == 0 {
				steps = append(steps, s)
			}
		}
		for range 600 {
			a, b, s, u := r.IntN(len(m.g)), r.IntN(len(m.g)), oneOf(r, steps...), oneOf(r, steps...)
			is := accepts(t, v, a, b, s, u)
			if is != m.derives(a, b, []api.Step{s, u}) || is && (!m.below(a, b) || m.far[a][b] > 2) {
				t.Fatalf("CheckDerive of %d and %d by %+v, %+v in %+v with %+v: %v", a, b, s, u, m.g, m.l, is)
			}
		}
	})
}

// D3: a derivation in which one thing is changed is one exactly if the definition says so.
func TestChangedDerivations(t *testing.T) {
	kept, lost := 0, 0
	environments(14, 2500, func(r *rand.Rand, m model) {
		v := open(t, m.g, m.l...)
		a, b := r.IntN(len(m.g)), r.IntN(len(m.g))
		l, is := derive(t, v, a, b)
		if !is || len(l) == 0 {
			return
		}
		at := r.IntN(len(l))
		switch r.IntN(5) {
		case 0:
			l[at].Rule = uint8(r.IntN(9))
		case 1:
			l[at].To = r.IntN(len(m.g)+2) - 1
		case 2:
			l[at].N = r.IntN(len(m.l)+2) - 1
		case 3:
			l = slices.Delete(l, at, at+1)
		case 4:
			l = slices.Insert(l, at, api.Step{Rule: 1, To: oneOf(r, a, b)})
		}
		if is = accepts(t, v, a, b, l...); is != m.derives(a, b, l) {
			t.Fatalf("CheckDerive of %d and %d by %+v in %+v with %+v: %v", a, b, l, m.g, m.l, is)
		}
		if is {
			kept++
		} else {
			lost++
		}
	})
	if kept < 50 || lost < 300 {
		t.Errorf("%d kept, %d lost", kept, lost)
	}
}

// D3: derivations lead through long lines.
func TestLongDerivations(t *testing.T) {
	g := api.Graph{plain(api.KdRoot)}
	for i := 1; i < 399; i++ {
		g = append(g, child(i-1))
	}
	g = append(g, plain(api.KdAny))
	v := open(t, g)
	l, is := derive(t, v, 398, 399)
	if !is || len(l) != 399 || l[0] != (api.Step{Rule: api.RuleSuper, To: 397}) || l[398] != (api.Step{Rule: api.RuleAny, To: 399}) {
		t.Errorf("Derive: %v, %v", l, is)
	}
	expect(t, "CheckDerive", accepts(t, v, 398, 399, l...), true)
	expect(t, "CheckDerive of all but one", accepts(t, v, 398, 399, l[1:]...), false)
	above, e := v.Above(398)
	if e != api.OK || len(above) != 400 || !slices.IsSorted(above) {
		t.Errorf("Above: %v, %v", above, e)
	}
	expect(t, "Below", below(t, v, 0, 398), false)
	expect(t, "Below", below(t, v, 63, 64), false)
	expect(t, "Below", below(t, v, 64, 63), true)
	line, e := v.Line(398)
	if e != api.OK || len(line) != 399 || line[0] != 398 || line[398] != 0 {
		t.Errorf("Line: %v, %v", line, e)
	}
}

// P4.2: it is an order, in which words and references lie apart, and types that are the same lie below and above the same ones.
func TestOrder(t *testing.T) {
	environments(15, 700, func(r *rand.Rand, m model) {
		v := open(t, m.g, m.l...)
		for a := range m.g {
			if !below(t, v, a, a) {
				t.Fatalf("%d does not lie below itself in %+v with %+v", a, m.g, m.l)
			}
			for b := range m.g {
				is := below(t, v, a, b)
				if is && isWord(m.g[a]) != isWord(m.g[b]) {
					t.Fatalf("%d lies below %d in %+v with %+v", a, b, m.g, m.l)
				}
				for c := range m.g {
					if is && below(t, v, b, c) && !below(t, v, a, c) {
						t.Fatalf("%d does not lie below %d, but by %d, in %+v with %+v", a, c, b, m.g, m.l)
					}
					if m.class[a] == m.class[b] && (below(t, v, a, c) != below(t, v, b, c) || below(t, v, c, a) != below(t, v, c, b)) {
						t.Fatalf("%d and %d lie otherwise to %d in %+v with %+v", a, b, c, m.g, m.l)
					}
				}
			}
		}
	})
}

// P4.4: with a further revelation what lay below still does; a Full one lets its Type and its opaque types lie below each other.
func TestMoreIsSeen(t *testing.T) {
	more, mutual := 0, 0
	environments(16, 4000, func(r *rand.Rand, m model) {
		further := slices.Insert(slices.Clone(m.l), r.IntN(len(m.l)+1), revealOf(r, m.g))
		w, e := sub.In(m.g, further)
		if e != api.OK {
			return
		}
		v := open(t, m.g, m.l...)
		for a := range m.g {
			for b := range m.g {
				before, after := below(t, v, a, b), below(t, w, a, b)
				if before && !after {
					t.Fatalf("%d lay below %d in %+v with %+v, but not with %+v", a, b, m.g, m.l, further)
				}
				if after && !before {
					more++
				}
			}
		}
		for _, x := range further {
			for i := range m.g {
				if !x.Full || m.g[i].Opaque != x.Name {
					continue
				}
				mutual++
				if !below(t, w, i, x.Type) || !below(t, w, x.Type, i) {
					t.Fatalf("%d and %d in %+v with %+v", i, x.Type, m.g, further)
				}
			}
		}
	})
	if more < 500 || mutual < 200 {
		t.Errorf("%d more, %d mutual", more, mutual)
	}
}

// D2: the rules, one by one: what lies below what by them, and what does not.
func TestRulesOneByOne(t *testing.T) {
	g := api.Graph{
		plain(api.KdAny), plain(api.KdRoot), plain(api.KdMutex), plain(api.KdCondition), child(2), opaqueOf("I.T", 0), opaqueOf("I.T", 2), brandedChild(3, "b"),
		{Kind: api.KdRecord, Parts: []api.Part{{Name: "a"}}}, {Kind: api.KdArray, Parts: []api.Part{{}}}, plain(api.KdBoolean), plain(api.KdBoolean),
	}
	v, full, part := open(t, g), open(t, g, fully("I.T", 7)), open(t, g, partly("I.T", 7))
	without := open(t, append(api.Graph{plain(api.KdAny)}, g[2:4]...))
	for _, row := range []struct {
		what string
		v    *sub.Env
		a, b int
		want bool
	}{
		{"a mutex", v, 2, 1, true}, {"a mutex", v, 2, 0, true}, {"a condition", v, 3, 1, true}, {"a mutex", v, 2, 3, false}, {"the root", v, 1, 2, false}, {"any", v, 0, 1, false},
		{"a mutex without a root", without, 1, 0, false}, {"a condition without a root", without, 2, 0, false},
		{"what is below a mutex", v, 4, 2, true}, {"what is below a mutex", v, 4, 0, true}, {"a mutex", v, 2, 4, false},
		{"an opaque type below any", v, 5, 0, true}, {"an opaque type below any", v, 5, 1, false}, {"an opaque type below a mutex", v, 6, 1, true},
		{"two with a symbol", v, 5, 6, false}, {"two with a symbol, both the same in full", full, 5, 6, true}, {"two with a symbol, both the same in full", full, 6, 5, true},
		{"two with a symbol, both below one", part, 5, 6, false}, {"what is opaque", full, 5, 7, true}, {"what is opaque", full, 7, 5, true}, {"what is opaque", full, 7, 2, true},
		{"what is opaque in part", part, 5, 7, true}, {"what is opaque in part", part, 7, 5, false}, {"what is opaque in part", part, 5, 3, true}, {"what is opaque", v, 5, 7, false},
		{"a record", v, 8, 0, true}, {"a record", v, 8, 1, false}, {"an array", v, 9, 0, true}, {"an array", v, 9, 1, false}, {"a record", v, 8, 9, false},
		{"a bool", v, 10, 11, true}, {"a bool", v, 10, 0, false}, {"any", v, 0, 10, false},
	} {
		expect(t, "Below of "+row.what, below(t, row.v, row.a, row.b), row.want)
	}
}
