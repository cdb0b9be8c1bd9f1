package sub_test

import (
	"math/rand/v2"
	"testing"

	"trestle/api"
	"trestle/sub"
)

// The chapter's examples of D4.
func TestJoinExamples(t *testing.T) {
	v := open(t, exampleGraph(), exampleReveal)
	for _, row := range [][3]int{{7, 6, 5}, {1, 2, 0}, {9, 7, 3}, {0, 9, -1}} {
		expect(t, "Join", join(t, v, row[0], row[1]), row[2])
		expect(t, "Join, turned", join(t, v, row[1], row[0]), row[2])
	}
}

// D4: there is no least one, or there are several that are the same, or that lie below each other.
func TestJoinOfSome(t *testing.T) {
	g := api.Graph{
		rangeOf(0, 9), rangeOf(0, 3), rangeOf(2, 5), rangeOf(0, 5), rangeOf(0, 5), rangeOf(-1, 5), rangeOf(0, 6), plain(api.KdBoolean), rangeOf(8, 8),
		plain(api.KdMutex), plain(api.KdCondition), plain(api.KdRoot), plain(api.KdRoot), child(9), child(9), plain(api.KdNull),
	}
	v := open(t, g)
	for _, row := range [][3]int{
		{1, 2, 3}, {3, 4, 3}, {4, 4, 3}, {1, 1, 1}, {1, 8, 0}, {5, 6, -1}, {5, 0, -1}, {7, 1, -1}, {7, 7, 7},
		{9, 10, 11}, {13, 10, 11}, {13, 14, 13}, {12, 12, 11}, {13, 12, 11}, {15, 13, 13}, {15, 15, 15}, {15, 12, 11}, {15, 7, -1},
	} {
		expect(t, "Join", join(t, v, row[0], row[1]), row[2])
		expect(t, "Join, turned", join(t, v, row[1], row[0]), row[2])
	}
	some := api.Graph{rangeOf(0, 9), rangeOf(-3, 6), rangeOf(1, 2), rangeOf(4, 5)}
	expect(t, "Join of two that lie below two others", join(t, open(t, some), 2, 3), -1)
	expect(t, "Join of two that lie below two others, and a least one", join(t, open(t, append(some, rangeOf(0, 6))), 2, 3), 4)
	opaque := api.Graph{plain(api.KdRoot), brandedChild(0, "b"), opaqueOf("I.T", 0), opaqueOf("I.T", 0)}
	expect(t, "Join of what is opaque", join(t, open(t, opaque, fully("I.T", 1)), 2, 3), 1)
	expect(t, "Join of what is opaque", join(t, open(t, opaque, partly("I.T", 1)), 2, 1), 1)
	expect(t, "Join of what is opaque", join(t, open(t, opaque), 3, 1), 0)
	expect(t, "Join of what is opaque", join(t, open(t, opaque), 3, 3), 2)
}

// D4, P4.5: Join lies above both, and below all types that do; it is there whenever one of both lies below the other one.
func TestJoinByDefinition(t *testing.T) {
	none := 0
	environments(21, 1500, func(r *rand.Rand, m model) {
		v := open(t, m.g, m.l...)
		for a := range m.g {
			for b := range m.g {
				i := join(t, v, a, b)
				if i != m.join(a, b) {
					t.Fatalf("Join of %d and %d in %+v with %+v: %d", a, b, m.g, m.l, i)
				}
				if below(t, v, a, b) && (i < 0 || !below(t, v, i, b) || !below(t, v, b, i)) {
					t.Fatalf("Join of %d below %d in %+v with %+v: %d", a, b, m.g, m.l, i)
				}
				if i < 0 {
					none++
				} else if !below(t, v, a, i) || !below(t, v, b, i) {
					t.Fatalf("Join of %d and %d in %+v with %+v is not above: %d", a, b, m.g, m.l, i)
				}
			}
		}
	})
	if none < 1000 {
		t.Errorf("%d without a Join", none)
	}
}

// expectAssign holds Assign against a Kind, which is 0 if there should be ErrAssign, and bounds.
func expectAssign(t *testing.T, v *sub.Env, to, from int, kind uint8, low, high int) {
	t.Helper()
	want := api.OK
	if kind == 0 {
		want = api.ErrAssign
	}
	a, e := v.Assign(to, from)
	expect(t, "Assign", a, api.Assign{Kind: kind, Low: low, High: high})
	expect(t, "Assign", e, want)
}

// The chapter's examples of D5.
func TestAssignExamples(t *testing.T) {
	v := open(t, exampleGraph(), exampleReveal)
	expectAssign(t, v, 1, 2, api.AssignRange, 0, 9)
	expectAssign(t, v, 0, 1, api.AssignFree, 0, 0)
	expectAssign(t, v, 7, 4, api.AssignNarrow, 0, 0)
	expectAssign(t, v, 4, 7, api.AssignFree, 0, 0)
	expectAssign(t, v, 9, 4, 0, 0, 0)
	expectAssign(t, v, 1, 10, api.AssignFree, 0, 0)
}

// D5: ranges that meet in one number, that have none in common, and that lie in one another.
func TestAssignNumbers(t *testing.T) {
	most := api.MaxInt
	g := api.Graph{
		plain(api.KdInteger), rangeOf(0, 5), rangeOf(5, 9), rangeOf(6, 9), rangeOf(-3, 0), rangeOf(-3, -1), rangeOf(0, 5), rangeOf(1, 4),
		plain(api.KdBoolean), rangeOf(-most, most), rangeOf(most, most), rangeOf(-most, -most), plain(api.KdInteger), plain(api.KdBoolean), rangeOf(0, 1),
	}
	v := open(t, g)
	expectAssign(t, v, 1, 2, api.AssignRange, 0, 5)
	expectAssign(t, v, 2, 1, api.AssignRange, 5, 9)
	expectAssign(t, v, 1, 3, 0, 0, 0)
	expectAssign(t, v, 3, 1, 0, 0, 0)
	expectAssign(t, v, 1, 4, api.AssignRange, 0, 5)
	expectAssign(t, v, 4, 1, api.AssignRange, -3, 0)
	expectAssign(t, v, 1, 5, 0, 0, 0)
	expectAssign(t, v, 5, 1, 0, 0, 0)
	expectAssign(t, v, 1, 6, api.AssignFree, 0, 0)
	expectAssign(t, v, 1, 1, api.AssignFree, 0, 0)
	expectAssign(t, v, 7, 1, api.AssignRange, 1, 4)
	expectAssign(t, v, 1, 7, api.AssignFree, 0, 0)
	expectAssign(t, v, 0, 12, api.AssignFree, 0, 0)
	for i := range g {
		if isNumbers(g[i]) {
			expectAssign(t, v, 0, i, api.AssignFree, 0, 0)
			expectAssign(t, v, 8, i, 0, 0, 0)
			expectAssign(t, v, i, 8, 0, 0, 0)
		}
		if g[i].Kind == api.KdRange {
			expectAssign(t, v, i, 0, api.AssignRange, g[i].Low, g[i].High)
			expectAssign(t, v, 9, i, api.AssignFree, 0, 0)
		}
	}
	expectAssign(t, v, 8, 13, api.AssignFree, 0, 0)
	expectAssign(t, v, 10, 9, api.AssignRange, most, most)
	expectAssign(t, v, 10, 11, 0, 0, 0)
	expectAssign(t, v, 11, 9, api.AssignRange, -most, -most)
	// The least and the greatest number of a range count, too, and no others.
	one := open(t, api.Graph{rangeOf(7, 7), rangeOf(7, 8), rangeOf(6, 7), rangeOf(8, 8), rangeOf(6, 6)})
	expectAssign(t, one, 0, 1, api.AssignRange, 7, 7)
	expectAssign(t, one, 0, 2, api.AssignRange, 7, 7)
	expectAssign(t, one, 1, 2, api.AssignRange, 7, 8)
	expectAssign(t, one, 0, 3, 0, 0, 0)
	expectAssign(t, one, 0, 4, 0, 0, 0)
}

// D5: references are assigned freely upwards, and with a check downwards; words and references never to each other.
func TestAssignReferences(t *testing.T) {
	g := api.Graph{
		plain(api.KdAny), plain(api.KdRoot), plain(api.KdNull), refTo(4), plain(api.KdInteger), child(1), child(5), objectOf(1, "o", 4), opaqueOf("I.T", 1),
		brandedChild(5, "b"), plain(api.KdBoolean), rangeOf(0, 1), refTo(4),
	}
	for _, l := range [][]api.Reveal{nil, {partly("I.T", 5)}, {fully("I.T", 9)}} {
		v, m := open(t, g, l...), modelOf(g, l)
		for to := range g {
			for from := range g {
				a, e := m.assign(to, from)
				kind := a.Kind
				if (e == api.OK) != (kind > 0) {
					t.Fatal("the definition")
				}
				expectAssign(t, v, to, from, kind, a.Low, a.High)
			}
		}
	}
	v := open(t, g, fully("I.T", 9))
	expectAssign(t, v, 0, 3, api.AssignFree, 0, 0)
	expectAssign(t, v, 3, 0, api.AssignNarrow, 0, 0)
	expectAssign(t, v, 3, 12, api.AssignFree, 0, 0)
	expectAssign(t, v, 3, 2, api.AssignFree, 0, 0)
	expectAssign(t, v, 2, 3, api.AssignNarrow, 0, 0)
	expectAssign(t, v, 6, 5, api.AssignNarrow, 0, 0)
	expectAssign(t, v, 6, 7, 0, 0, 0)
	expectAssign(t, v, 8, 9, api.AssignFree, 0, 0)
	expectAssign(t, v, 9, 8, api.AssignFree, 0, 0)
	expectAssign(t, v, 8, 5, api.AssignNarrow, 0, 0)
	expectAssign(t, v, 4, 2, 0, 0, 0)
	expectAssign(t, v, 0, 4, 0, 0, 0)
}

// D5, P4.6: Assign is free exactly if from lies below to; what can be assigned with a check is above, or has a number in common.
func TestAssignByDefinition(t *testing.T) {
	count := map[uint8]int{}
	environments(22, 1500, func(r *rand.Rand, m model) {
		v := open(t, m.g, m.l...)
		for to := range m.g {
			for from := range m.g {
				want, wantErr := m.assign(to, from)
				a, e := v.Assign(to, from)
				if a != want || e != wantErr {
					t.Fatalf("Assign of %d from %d in %+v with %+v: %+v, %v instead of %+v", to, from, m.g, m.l, a, e, want)
				}
				count[a.Kind]++
				if (a.Kind == api.AssignFree) != below(t, v, from, to) || e == api.OK && isWord(m.g[to]) != isWord(m.g[from]) {
					t.Fatalf("Assign of %d from %d in %+v with %+v: %+v", to, from, m.g, m.l, a)
				}
				if a.Kind > api.AssignFree && !below(t, v, to, from) && !(isNumbers(m.g[to]) && isNumbers(m.g[from])) {
					t.Fatalf("Assign of %d from %d in %+v with %+v, with a check: %+v", to, from, m.g, m.l, a)
				}
			}
		}
	})
	for kind := range uint8(4) {
		if count[kind] < 400 {
			t.Errorf("of few sorts: %v", count)
		}
	}
}
