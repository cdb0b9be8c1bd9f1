package types_test

import (
	"reflect"
	"testing"

	"trestle/api"
	"trestle/types"
)

// results returns what all functions return for a graph, two indices, and more.
func results(g, h api.Graph, a, b int, way []int, pairs [][2]int) []any {
	var l []any
	add := func(results ...any) { l = append(l, results) }
	i, e := types.Check(g)
	add(i, e)
	is, e := types.Equal(g, a, b)
	add(is, e)
	is, e = types.CheckEqual(g, pairs)
	add(is, e)
	found, is, e := types.Apart(g, a, b)
	add(found, is, e)
	is, e = types.CheckApart(g, a, b, way)
	add(is, e)
	list, e := types.Classes(g)
	add(list, e)
	m, to, e := types.Merge(g)
	add(m, to, e)
	list, e = types.Reach(g, a)
	add(list, e)
	m, e = types.Join(g, h)
	add(m, e)
	s, e := types.Text(g, a)
	add(s, e)
	s, e = types.Print(g, a)
	add(s, e)
	is, e = types.Word(g, a)
	add(is, e)
	add(types.Same(g, h))
	return l
}

// isEmpty tells whether a result is a zero value, or an empty list.
func isEmpty(x any) bool {
	v := reflect.ValueOf(x)
	return v.IsZero() || v.Kind() == reflect.Slice && v.Len() == 0
}

// R1 to R4: no call panics, changes its arguments, or returns something else the next time; with an error all other results are empty, but for the index of Check.
func TestRules(t *testing.T) {
	r := random(20)
	for n := range 6000 {
		g, h := anyGraph(r), anyGraph(r)
		if n%2 == 0 {
			g = graphOf(r, 1+r.IntN(5))
		}
		number := func() int { return oneOf(r, 0, 1, 2, -1, len(g), len(g)-1, 400, -1<<63, 1<<63-1) }
		a, b := number(), number()
		way, pairs := []int{number(), number()}, [][2]int{{number(), number()}, {number(), number()}}
		before := []any{copyOf(g), copyOf(h), []int{way[0], way[1]}, [][2]int{pairs[0], pairs[1]}}
		first := results(g, h, a, b, way, pairs)
		if !types.Same(before[0].(api.Graph), g) || !types.Same(before[1].(api.Graph), h) || !reflect.DeepEqual(before[2:], []any{way, pairs}) {
			t.Fatalf("the arguments %+v were changed", before)
		}
		again := results(copyOf(g), copyOf(h), a, b, way, pairs)
		for i, call := range first {
			list := call.([]any)
			e, isErr := list[len(list)-1].(api.Errno)
			for _, x := range list[:len(list)-1] {
				if isErr && e != api.OK && i > 0 && !isEmpty(x) {
					t.Fatalf("call %d of %+v: %v beside the error %v", i, g, x, e)
				}
			}
			other := again[i].([]any)
			for k := range list {
				if m, ok := list[k].(api.Graph); ok && types.Same(m, other[k].(api.Graph)) {
					continue
				}
				if !reflect.DeepEqual(list[k], other[k]) {
					t.Fatalf("call %d of %+v: %v, and then %v", i, g, list[k], other[k])
				}
			}
		}
	}
}

// Errors: ErrGraph is first, and then ErrArg for an index that there is not.
func TestErrors(t *testing.T) {
	good, bad := lists(), append(lists(), api.Ty{})
	many := make([][2]int, 2001)
	calls := func(g api.Graph, a, b int) map[string]api.Errno {
		l := map[string]api.Errno{}
		_, l["Equal"] = types.Equal(g, a, b)
		_, _, l["Apart"] = types.Apart(g, a, b)
		_, l["CheckApart"] = types.CheckApart(g, a, b, []int{-1})
		if b == 0 {
			_, l["Reach"] = types.Reach(g, a)
			_, l["Text"] = types.Text(g, a)
			_, l["Print"] = types.Print(g, a)
			_, l["Word"] = types.Word(g, a)
		}
		return l
	}
	for _, i := range []int{-1 << 63, -1, 0, 6, 7, 8, 400, 1<<63 - 1} {
		want := api.OK
		if i < 0 || i > 6 {
			want = api.ErrArg
		}
		for _, pair := range [][2]int{{i, 0}, {0, i}, {i, i}} {
			for name, e := range calls(good, pair[0], pair[1]) {
				if e != want {
					t.Errorf("%s of %v: %v", name, pair, e)
				}
			}
			for name, e := range calls(bad, pair[0], pair[1]) {
				if e != api.ErrGraph {
					t.Errorf("%s of %v of a graph that is not well-formed: %v", name, pair, e)
				}
			}
		}
	}
	for name, e := range calls(nil, 0, 0) {
		if e != api.ErrArg {
			t.Errorf("%s of no types: %v", name, e)
		}
	}
	if _, e := types.CheckEqual(bad, many); e != api.ErrGraph {
		t.Errorf("CheckEqual: %v", e)
	}
	if _, e := types.Classes(bad); e != api.ErrGraph {
		t.Errorf("Classes: %v", e)
	}
	if _, _, e := types.Merge(bad); e != api.ErrGraph {
		t.Errorf("Merge: %v", e)
	}
	circle := api.Graph{{Kind: api.KdObject}}
	if _, e := types.Text(circle, 0); e != api.ErrGraph {
		t.Errorf("Text of a circle of Supers: %v", e)
	}
}

// spoil changes all in a graph.
func spoil(g api.Graph) {
	for i := range g {
		t := &g[i]
		for k := range t.Parts {
			t.Parts[k] = api.Part{Name: "spoilt", Type: -7}
		}
		for k := range t.Methods {
			s := t.Methods[k].Sig
			for j := range s.Args {
				s.Args[j] = -7
			}
			for j := range s.Raises {
				s.Raises[j] = "spoilt"
			}
			t.Methods[k].Name = "spoilt"
		}
		for k := range t.Overs {
			t.Overs[k].Name = "spoilt"
		}
		t.Kind = 99
	}
}

// R3: results are new memory.
func TestResultsAreNew(t *testing.T) {
	g := append(copyOf(ends), full(), refTo(7))
	before := copyOf(g)
	m, to, _ := types.Merge(g)
	j, _ := types.Join(g, g)
	if !types.Same(m, g) || len(j) != 2*len(g) {
		t.Fatalf("Merge: %+v; Join: %+v", m, j)
	}
	spoil(m)
	spoil(j[:len(g)])
	if !types.Same(g, before) {
		t.Error("a result shares memory with an argument")
	}
	if want, _ := types.Join(nil, j[len(g):len(g)]); len(want) != 0 {
		t.Error("Join of nothing")
	}
	for i, x := range j[len(g):] {
		if !types.Same(api.Graph{x}, api.Graph{mapped(before[i], func(i int) int { return len(g) + i })}) {
			t.Error("the types of a result share memory")
		}
	}
	to[0] = 7
	if c, _ := types.Classes(g); c[0] != 0 {
		t.Error("Classes")
	}
}
