package sub_test

import (
	"fmt"
	"math/rand/v2"
	"slices"
	"testing"

	"trestle/api"
	"trestle/sub"
)

func expectLine(t *testing.T, v *sub.Env, i int, want ...int) {
	t.Helper()
	l, e := v.Line(i)
	expect(t, fmt.Sprintf("Line of %d", i), must(t, l, e), want)
}

// The chapter's examples of D6.
func TestLineExamples(t *testing.T) {
	v, without := open(t, exampleGraph(), exampleReveal), open(t, exampleGraph())
	expectLine(t, v, 7, 7, 5, 6, 4)
	expectLine(t, without, 7, 7, 5, 4)
	expect(t, "Field", field(v, 7, "n"), found{6, 0, api.OK})
	expect(t, "Field", field(v, 7, "m"), found{7, 0, api.OK})
	expect(t, "Field without revelations", field(without, 7, "n"), found{e: api.ErrNone})
}

// lineGraph has an opaque type I.T, types to which it may be revealed, and a type below it.
func lineGraph() api.Graph {
	return api.Graph{
		plain(api.KdRoot), opaqueOf("I.T", 2), objectOf(0, "s", 0), brandedChild(4, "b"), objectOf(2, "u", 0), objectOf(4, "v", 0), objectOf(1, "w", 0),
		plain(api.KdAny), plain(api.KdMutex), child(8), opaqueOf("I.U", 1), opaqueOf("I.T", 7), refTo(0), {Kind: api.KdRecord, Branded: true, Parts: []api.Part{{Name: "r"}}},
		plain(api.KdNull), plain(api.KdInteger),
	}
}

// D6: the line of an opaque type goes on with its Full revelation, or else with all others in their order, and its Super.
func TestLineOfOpaque(t *testing.T) {
	with := func(l ...api.Reveal) *sub.Env { return open(t, lineGraph(), l...) }
	expectLine(t, with(), 6, 6, 1, 2, 0)
	expectLine(t, with(fully("I.T", 3)), 6, 6, 1, 3, 4, 2, 0)
	expectLine(t, with(fully("I.T", 3)), 1, 1, 3, 4, 2, 0)
	// Others are not looked at beside a Full one, wherever they stand, nor is the Super.
	expectLine(t, with(partly("I.T", 5), fully("I.T", 3)), 1, 1, 3, 4, 2, 0)
	expectLine(t, with(fully("I.T", 3), partly("I.T", 5)), 1, 1, 3, 4, 2, 0)
	expectLine(t, with(fully("I.T", 13)), 6, 6, 1, 13)
	expectLine(t, with(fully("I.T", 13), partly("I.T", 5)), 11, 11, 13)
	// Several that are not Full.
	expectLine(t, with(partly("I.T", 4), partly("I.T", 5)), 1, 1, 4, 2, 0, 5)
	expectLine(t, with(partly("I.T", 5), partly("I.T", 4)), 1, 1, 5, 4, 2, 0)
	expectLine(t, with(partly("I.T", 9), partly("I.T", 4)), 6, 6, 1, 9, 8, 4, 2, 0)
	expectLine(t, with(partly("I.T", 9), partly("I.U", 4)), 6, 6, 1, 9, 8, 2, 0)
	expectLine(t, with(partly("I.T", 12), partly("I.T", 12)), 11, 11, 12, 7)
	expectLine(t, with(partly("N.T", 12), fully("N.U", 3)), 11, 11, 7)
	// One opaque type behind the other one.
	expectLine(t, with(), 10, 10, 1, 2, 0)
	expectLine(t, with(partly("I.U", 12), partly("I.T", 13)), 10, 10, 12, 1, 13, 2, 0)
	expectLine(t, with(fully("I.U", 3), partly("I.T", 13)), 10, 10, 3, 4, 2, 0)
	expectLine(t, with(partly("I.U", 11), partly("I.T", 13)), 10, 10, 11, 13, 7, 1, 2, 0)
	expectLine(t, with(partly("I.T", 2), partly("I.T", 0)), 1, 1, 2, 0)
	expectLine(t, with(partly("I.T", 0), partly("I.T", 2)), 1, 1, 0, 2)
}

// D6: the line of all other types has no more than the type itself.
func TestLineOfOthers(t *testing.T) {
	v := open(t, kinds(), fully("I.T", 21))
	for i, x := range kinds() {
		if !hasSuper(x) {
			expectLine(t, v, i, i)
		}
	}
	expectLine(t, v, 15, 15, 10)
}

// declared has fields and methods that are declared twice in a line.
func declared() api.Graph {
	parts := func(names ...string) []api.Part {
		var l []api.Part
		for _, name := range names {
			l = append(l, api.Part{Name: name})
		}
		return l
	}
	methods := func(names ...string) []api.Method {
		var l []api.Method
		for _, name := range names {
			l = append(l, api.Method{Name: name, Sig: api.Sig{Result: -1}})
		}
		return l
	}
	return api.Graph{
		plain(api.KdRoot),
		{Kind: api.KdObject, Super: 0, Parts: parts("a", "b"), Methods: methods("p", "q", "a")},
		{Kind: api.KdObject, Super: 1, Parts: parts("c", "b"), Methods: methods("r", "q")},
		opaqueOf("I.T", 2),
		{Kind: api.KdObject, Super: 3, Parts: parts("b"), Methods: methods("b"), Overs: []api.Over{{Name: "z", Proc: "M.z"}}},
		{Kind: api.KdRecord, Branded: true, Parts: parts("x", "a", "y")},
		{Kind: api.KdRef, Parts: parts("")},
		{Kind: api.KdArray, Parts: parts("")},
	}
}

// D6: names declared twice, and such as are not declared.
func TestDeclared(t *testing.T) {
	v, full, part := open(t, declared()), open(t, declared(), fully("I.T", 5)), open(t, declared(), partly("I.T", 6), partly("I.T", 5))
	none := found{e: api.ErrNone}
	for _, row := range []struct {
		v             *sub.Env
		t             int
		name          string
		field, method found
	}{
		{v, 4, "b", found{4, 0, api.OK}, found{4, 0, api.OK}}, {v, 4, "c", found{2, 0, api.OK}, none}, {v, 4, "a", found{1, 0, api.OK}, found{1, 2, api.OK}},
		{v, 3, "b", found{2, 1, api.OK}, none}, {v, 1, "b", found{1, 1, api.OK}, none}, {v, 4, "q", none, found{2, 1, api.OK}}, {v, 1, "q", none, found{1, 1, api.OK}},
		{v, 4, "p", none, found{1, 0, api.OK}}, {v, 2, "r", none, found{2, 0, api.OK}}, {v, 1, "r", none, none}, {v, 4, "z", none, none}, {v, 1, "c", none, none},
		{v, 4, "", none, none}, {v, 6, "", none, none}, {v, 7, "", none, none}, {v, 0, "a", none, none}, {v, 5, "y", found{5, 2, api.OK}, none}, {v, 5, "x", found{5, 0, api.OK}, none},
		{v, 4, "B", none, none}, {v, 4, "b ", none, none}, {v, 3, "x", none, none},
		{full, 4, "b", found{4, 0, api.OK}, found{4, 0, api.OK}}, {full, 4, "a", found{5, 1, api.OK}, none}, {full, 4, "c", none, none}, {full, 3, "x", found{5, 0, api.OK}, none}, {full, 4, "p", none, none},
		{part, 4, "a", found{5, 1, api.OK}, found{1, 2, api.OK}}, {part, 4, "c", found{2, 0, api.OK}, none}, {part, 3, "b", found{2, 1, api.OK}, none}, {part, 3, "", none, none},
	} {
		expect(t, fmt.Sprintf("Field of %d, %q", row.t, row.name), field(row.v, row.t, row.name), row.field)
		expect(t, fmt.Sprintf("Method of %d, %q", row.t, row.name), method(row.v, row.t, row.name), row.method)
	}
}

// D6: lines, fields and methods are as the definition says in environments of all sorts, too.
func TestLineByDefinition(t *testing.T) {
	fields, methods := 0, 0
	environments(31, 4000, func(r *rand.Rand, m model) {
		v := open(t, m.g, m.l...)
		for i := range m.g {
			if l, e := v.Line(i); e != api.OK || !slices.Equal(l, m.line(i)) {
				t.Fatalf("Line of %d in %+v with %+v: %v, %v", i, m.g, m.l, l, e)
			}
			for _, name := range []string{"a", "b", "c", "d", "x", "y", "", "I.T"} {
				if f := field(v, i, name); f != m.field(i, name) {
					t.Fatalf("Field of %d, %q in %+v with %+v: %v", i, name, m.g, m.l, f)
				} else if f.e == api.OK && f.owner != i {
					fields++
				}
				if f := method(v, i, name); f != m.method(i, name) {
					t.Fatalf("Method of %d, %q in %+v with %+v: %v", i, name, m.g, m.l, f)
				} else if f.e == api.OK && f.owner != i {
					methods++
				}
			}
		}
	})
	if fields < 1000 || methods < 500 {
		t.Errorf("%d fields and %d methods of others", fields, methods)
	}
}
