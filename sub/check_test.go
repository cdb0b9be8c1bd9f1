package sub_test

import (
	"fmt"
	"math/rand/v2"
	"slices"
	"testing"

	"trestle/api"
	"trestle/sub"
)

// expectCheck holds Check and In against the error that both should return.
func expectCheck(t *testing.T, what string, want api.Errno, g api.Graph, l ...api.Reveal) {
	t.Helper()
	expect(t, "Check "+what, sub.Check(g, l), want)
	v, e := sub.In(g, l)
	expect(t, "In "+what, e, want)
	if (v != nil) != (want == api.OK) {
		t.Errorf("In %s: the environment %v", what, v)
	}
}

// The chapter's examples of D1.
func TestCheckExamples(t *testing.T) {
	expectCheck(t, "of the example", api.OK, exampleGraph(), exampleReveal)
	expectCheck(t, "with the revelation twice", api.ErrEnv, exampleGraph(), exampleReveal, exampleReveal)
	circle := exampleGraph()
	circle[6].Super = 7
	expectCheck(t, "with a Super of 6 that is 7", api.ErrEnv, circle, exampleReveal)
	expectCheck(t, "of that without revelations", api.OK, circle)
	expectCheck(t, "of nothing", api.OK, nil)
}

// D1: a graph that is not well-formed comes ahead of too many revelations, and these of such as are not right.
func TestCheckOrder(t *testing.T) {
	bad := exampleGraph()
	bad[1].Low = 10
	round := api.Graph{child(1), child(0)}
	few, many, none := []api.Reveal{partly("", -1)}, slices.Repeat([]api.Reveal{partly("I.T", 4)}, 61), []api.Reveal{exampleReveal}
	expectCheck(t, "of a bad graph", api.ErrGraph, bad, none...)
	expectCheck(t, "of a bad graph, bad revelations", api.ErrGraph, bad, few...)
	expectCheck(t, "of a bad graph, many revelations", api.ErrGraph, bad, many...)
	expectCheck(t, "of a circle of Supers", api.ErrGraph, round)
	expectCheck(t, "of 401 types", api.ErrGraph, make(api.Graph, 401))
	expectCheck(t, "of 401 good types", api.ErrGraph, slices.Repeat(api.Graph{plain(1)}, 401), many...)
	expectCheck(t, "of 400 types", api.OK, slices.Repeat(api.Graph{plain(api.KdAny)}, 400), partly("I.T", 399))
	expectCheck(t, "of 61 revelations", api.ErrLimit, exampleGraph(), many...)
	expectCheck(t, "of 60 revelations", api.OK, exampleGraph(), many[1:]...)
	expectCheck(t, "of 61 bad revelations", api.ErrLimit, exampleGraph(), slices.Repeat(few, 61)...)
	expectCheck(t, "of 60 bad revelations", api.ErrEnv, exampleGraph(), slices.Repeat(few, 60)...)
	expectCheck(t, "of 61 revelations of no types", api.ErrLimit, nil, many...)
}

// D1: Names are symbols.
func TestCheckNames(t *testing.T) {
	for name, want := range map[string]api.Errno{
		"I.T": api.OK, "N.T": api.OK, "a1.END": api.OK, "twelveLetter.twelveLetter": api.OK,
		"": api.ErrEnv, "T": api.ErrEnv, "I.": api.ErrEnv, ".T": api.ErrEnv, "I.T.U": api.ErrEnv, "I T": api.ErrEnv, "I. T": api.ErrEnv,
		"thirteenBytes.T": api.ErrEnv, "I.thirteenBytes": api.ErrEnv, "1.T": api.ErrEnv, "I.1": api.ErrEnv, "I.T\n": api.ErrEnv, "ALERTED": api.ErrEnv,
	} {
		expectCheck(t, fmt.Sprintf("of the Name %q", name), want, exampleGraph(), partly(name, 4))
		expectCheck(t, fmt.Sprintf("of the Full Name %q", name), want, exampleGraph(), fully(name, 6))
	}
}

// D1: Types are indices: of references that are not NULL, or, of Full ones, of types with a brand.
func TestCheckTypes(t *testing.T) {
	g := api.Graph{
		plain(api.KdInteger), plain(api.KdBoolean), rangeOf(0, 1), plain(api.KdNull),
		plain(api.KdAny), plain(api.KdRoot), plain(api.KdMutex), plain(api.KdCondition), refTo(0),
		{Kind: api.KdRecord, Parts: []api.Part{{Name: "a"}}}, {Kind: api.KdArray, Parts: []api.Part{{}}}, child(5), opaqueOf("I.U", 4),
	}
	for i := range g {
		wantPart := api.OK
		if i < 4 {
			wantPart = api.ErrEnv
		}
		expectCheck(t, fmt.Sprintf("of %d", i), wantPart, g, partly("I.T", i))
		expectCheck(t, fmt.Sprintf("of %d, Full", i), api.ErrEnv, g, fully("I.T", i))
	}
	for i := 8; i < 12; i++ {
		for _, brand := range []string{"", "b"} {
			branded := copyOf(g)
			branded[i].Branded, branded[i].Brand = true, brand
			expectCheck(t, fmt.Sprintf("of %d with a brand", i), api.OK, branded, partly("I.T", i))
			expectCheck(t, fmt.Sprintf("of %d with a brand, Full", i), api.OK, branded, fully("I.T", i))
		}
	}
	for _, i := range []int{-1 << 63, -1, len(g), 400, 1<<63 - 1} {
		expectCheck(t, fmt.Sprintf("of %d", i), api.ErrEnv, g, partly("I.T", i))
		expectCheck(t, fmt.Sprintf("of %d, Full", i), api.ErrEnv, g, fully("I.T", i))
	}
	expectCheck(t, "of the first index", api.ErrEnv, g, partly("I.T", 0))
	expectCheck(t, "of the first index", api.OK, g[4:5], partly("I.T", 0))
	expectCheck(t, "of the last index", api.OK, g, partly("I.T", len(g)-1))
	expectCheck(t, "of a bad one behind a good one", api.ErrEnv, g, partly("I.T", 4), partly("I.T", 0))
	expectCheck(t, "of a bad one ahead of a good one", api.ErrEnv, g, partly("I.T", 0), partly("I.T", 4))
}

// D1: no two Full revelations have the same Name; others may.
func TestCheckTwice(t *testing.T) {
	g := api.Graph{plain(api.KdRoot), opaqueOf("I.T", 0), opaqueOf("I.U", 0), brandedChild(0, "a"), brandedChild(0, "b")}
	expectCheck(t, "of one revelation twice", api.OK, g, partly("I.T", 3), partly("I.T", 3))
	expectCheck(t, "of two revelations of a Name", api.OK, g, partly("I.T", 3), partly("I.T", 4))
	expectCheck(t, "of a Full one behind another one", api.OK, g, partly("I.T", 3), fully("I.T", 3))
	expectCheck(t, "of a Full one ahead of another one", api.OK, g, fully("I.T", 3), partly("I.T", 4))
	expectCheck(t, "of two Full ones of a Type", api.OK, g, fully("I.T", 3), fully("I.U", 3))
	expectCheck(t, "of two Full ones of a Name and a Type", api.ErrEnv, g, fully("I.T", 3), fully("I.T", 3))
	expectCheck(t, "of two Full ones of a Name", api.ErrEnv, g, fully("I.T", 3), fully("I.T", 4))
	expectCheck(t, "of two Full ones of a Name, another one between", api.ErrEnv, g, fully("I.T", 3), fully("I.U", 4), fully("I.T", 4))
	expectCheck(t, "of two Full ones of a Name that nobody has", api.ErrEnv, g, fully("N.T", 3), fully("N.T", 4))
}

// D1: no type comes to itself by Supers and revelations.
func TestCheckCircles(t *testing.T) {
	g := api.Graph{
		plain(api.KdRoot), opaqueOf("I.T", 0), opaqueOf("I.U", 0), brandedChild(1, "a"), brandedChild(3, "b"), brandedChild(2, "c"),
		refTo(1), opaqueOf("I.T", 0), child(7), opaqueOf("I.T", 2),
	}
	g[6].Branded = true
	expectCheck(t, "of an opaque type by itself", api.ErrEnv, g, partly("I.T", 1))
	expectCheck(t, "of an opaque type by one with its symbol", api.ErrEnv, g, partly("I.T", 7))
	expectCheck(t, "of an opaque type by one below it", api.ErrEnv, g, partly("I.T", 3))
	expectCheck(t, "of an opaque type by one below it, Full", api.ErrEnv, g, fully("I.T", 3))
	expectCheck(t, "of an opaque type by one far below it", api.ErrEnv, g, fully("I.T", 4))
	expectCheck(t, "of an opaque type by one below another one with its symbol", api.ErrEnv, g, partly("I.T", 8))
	expectCheck(t, "of an opaque type by one below it, behind a right one", api.ErrEnv, g, partly("I.T", 0), partly("I.T", 3))
	expectCheck(t, "of an opaque type by one below it, ahead of a right one", api.ErrEnv, g, partly("I.T", 3), partly("I.T", 0))
	expectCheck(t, "of two opaque types by one another", api.ErrEnv, g, partly("I.T", 2), partly("I.U", 1))
	expectCheck(t, "of two opaque types by what is below", api.ErrEnv, g, partly("I.T", 5), partly("I.U", 4))
	expectCheck(t, "of one of two opaque types with a symbol by one below", api.ErrEnv, g, partly("I.U", 9))
	expectCheck(t, "of a circle that others come to", api.ErrEnv, api.Graph{child(1), opaqueOf("I.T", 2), plain(api.KdRoot), child(1)}, partly("I.T", 3))
	expectCheck(t, "of a reference to itself", api.OK, g, fully("I.T", 6))
	expectCheck(t, "of what is below an opaque type with another symbol", api.OK, g, partly("I.U", 3))
	expectCheck(t, "of one by two ways", api.OK, g, partly("I.U", 4), partly("I.U", 3), partly("I.U", 1))
	expectCheck(t, "of a symbol that nobody has", api.OK, g, partly("N.T", 4))
	expectCheck(t, "of two opaque types in a row", api.OK, g, partly("I.U", 1))
}

// D1: the one that is revealed to be above an opaque type is below one that is the same.
func TestCheckCirclesOfCopies(t *testing.T) {
	g := api.Graph{plain(api.KdRoot), opaqueOf("I.T", 0), plain(api.KdRoot), opaqueOf("I.T", 2), child(3), child(1), opaqueOf("I.U", 5)}
	expectCheck(t, "of copies", api.ErrEnv, g, partly("I.T", 4))
	expectCheck(t, "of copies", api.ErrEnv, g, partly("I.T", 5))
	expectCheck(t, "of copies", api.ErrEnv, g, partly("I.T", 6))
	expectCheck(t, "of copies", api.OK, g, partly("I.U", 4), partly("I.T", 2))
}

// D1: long ways lead round, too.
func TestCheckLongCircle(t *testing.T) {
	for _, want := range []api.Errno{api.OK, api.ErrEnv} {
		g := api.Graph{plain(api.KdRoot), opaqueOf("I.T", 0)}
		for i := 2; i < 400; i++ {
			g = append(g, child(i-1))
		}
		if want == api.OK {
			g[2].Super = 0
		}
		expectCheck(t, "of a long line", want, g, partly("I.T", 399))
	}
}

// D1: Check is as the definition says, for graphs and revelations of all sorts.
func TestCheckByDefinition(t *testing.T) {
	seen := map[api.Errno]int{}
	try := func(r *rand.Rand, g api.Graph, l []api.Reveal) {
		want := checkByDefinition(g, l)
		seen[want]++
		if e := sub.Check(g, l); e != want {
			t.Fatalf("Check of %+v with %+v: %v instead of %v", g, l, e, want)
		}
		if v, e := sub.In(g, l); e != want || (v != nil) != (e == api.OK) {
			t.Fatalf("In of %+v with %+v: %v, %v instead of %v", g, l, v, e, want)
		}
	}
	anyEnvironments(1, 4000, try)
	anyEnvironments(2, 2000, func(r *rand.Rand, g api.Graph, l []api.Reveal) {
		spoilSomething(r, g, l)
		try(r, g, l)
	})
	if seen[api.OK] < 2000 || seen[api.ErrEnv] < 1000 || seen[api.ErrGraph] < 100 {
		t.Errorf("of few sorts: %v", seen)
	}
}

// spoilSomething changes one thing in a graph, or in its revelations.
func spoilSomething(r *rand.Rand, g api.Graph, l []api.Reveal) {
	number := oneOf(r, -1, len(g), len(g)-1, 0, 1<<62)
	if len(l) == 0 {
		g[r.IntN(len(g))].Super = number
		return
	}
	switch at := &l[r.IntN(len(l))]; r.IntN(4) {
	case 0:
		at.Type = number
	case 1:
		at.Name = oneOf(r, "", "I", "I.T.", "I.U", "I.T")
	case 2:
		at.Full = !at.Full
	case 3:
		g[r.IntN(len(g))].Super = number
	}
}
