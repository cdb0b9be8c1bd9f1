package generic_test

import (
	"slices"
	"testing"

	"trestle/api"
	"trestle/generic"
)

// answers is what all functions return for a library, and, of its units, each with each.
type answers struct {
	check       api.Fault
	expanded    []api.Unit
	expand      api.Fault
	offered     []api.Want
	offers      api.Fault
	fits        []fit
	instances   []int
	instance    api.Fault
	asked       [][]api.Want
	asks, apply []api.Errno
	applied     []api.Unit
}

func answersOf(l []api.Unit, name string) answers {
	var a answers
	a.check = generic.Check(l)
	a.expanded, a.expand = generic.Expand(l)
	a.offered, a.offers = generic.Offers(l, name)
	a.instances, a.instance = generic.Instances(l, name)
	for i, u := range l {
		a.fits = append(a.fits, fits(l, i))
		w, e := generic.Asks(u, name)
		a.asked, a.asks = append(a.asked, w), append(a.asks, e)
		for _, v := range l {
			w, e := generic.Apply(u, v)
			a.applied, a.apply = append(a.applied, w), append(a.apply, e)
		}
	}
	return a
}

func sameAnswers(a, b answers) bool {
	return a.check == b.check && sameUnits(a.expanded, b.expanded) && a.expand == b.expand && slices.Equal(a.offered, b.offered) && a.offers == b.offers &&
		slices.Equal(a.fits, b.fits) && slices.Equal(a.instances, b.instances) && a.instance == b.instance &&
		slices.EqualFunc(a.asked, b.asked, slices.Equal) && slices.Equal(a.asks, b.asks) && slices.Equal(a.apply, b.apply) && sameUnits(a.applied, b.applied)
}

// nothingBesideErrors reports whether all results are empty where there is an error, and no place is named where there is none.
func nothingBesideErrors(a answers) bool {
	without := func(f api.Fault, empty bool) bool { return f.Err != api.OK && empty || f.Err == api.OK && f.At == 0 }
	ok := without(a.check, true) && without(a.expand, len(a.expanded) == 0) && without(a.offers, len(a.offered) == 0) && without(a.instance, len(a.instances) == 0)
	for _, x := range a.fits {
		places := x.f.Err == api.ErrActual || x.f.Err == api.ErrOffer || x.f.Err == api.ErrLimit && a.check.Err == api.OK
		ok = ok && without(x.f, true) && (x.actual != "") == places && (x.name != "") == (x.f.Err == api.ErrOffer)
	}
	for i, e := range a.asks {
		ok = ok && (e == api.OK || len(a.asked[i]) == 0)
	}
	for i, e := range a.apply {
		ok = ok && (e == api.OK || sameUnit(a.applied[i], api.Unit{}))
	}
	return ok
}

// R1, R2, R4: units with any values are answered, twice alike, with nothing beside an error.
func TestAnyUnits(t *testing.T) {
	seen := map[api.Errno]int{}
	libraries(81, 500, func(g *generator, l []api.Unit) {
		l = copiesOf(l[:min(len(l), 5)])
		if len(l) > 0 && g.IntN(10) == 0 {
			l = append(l, copyOf(l[0]))
		}
		for range g.IntN(3) {
			if len(l) > 0 {
				spoil(g, &l[g.IntN(len(l))])
			}
		}
		name := pick(g, "A", "B", "E", "F", "G", "I", "", "END", "thirteenBytes", "\xff")
		a := answersOf(l, name)
		seen[a.check.Err]++
		if !nothingBesideErrors(a) || !sameAnswers(a, answersOf(l, name)) {
			t.Fatalf("of %+v with %q: %+v", l, name, a)
		}
	})
	if seen[api.OK] < 100 || seen[api.ErrTree] < 100 || seen[api.ErrTwice] < 5 {
		t.Errorf("of few sorts: %v", seen)
	}
}

// spoil changes something in a unit.
func spoil(g *generator, u *api.Unit) {
	strange := pick(g, "", "END", "thirteenBytes", "A", "G", "I", "\xff")
	lists := []*[]string{&u.Formals, &u.Actuals, &u.Exports, &u.Imports}
	switch g.IntN(8) {
	case 0:
		u.Kind = uint8(g.IntN(4))
	case 1:
		u.Generic = !u.Generic
	case 2:
		*pick(g, &u.Name, &u.Of) = strange
	case 3:
		list := pick(g, lists...)
		*list = append(*list, strange)
	case 4:
		*pick(g, lists...) = nil
	case 5:
		u.Body = append(u.Body, api.Node{Kind: uint8(g.IntN(60)), Kids: []int{pick(g, -1, 0, 1, 1<<62)}})
	case 6:
		u.Decls = append(u.Decls, api.Decl{Kind: uint8(g.IntN(9)), Unit: strange, Name: strange})
	case 7:
		for i := range u.Decls {
			spoilNodes(g, u.Decls[i].Nodes)
		}
	}
}

// spoilNodes changes something in a tree.
func spoilNodes(g *generator, l []api.Node) {
	if len(l) == 0 {
		return
	}
	n := &l[g.IntN(len(l))]
	switch g.IntN(4) {
	case 0:
		n.Kind = uint8(g.IntN(60))
	case 1:
		n.Kids = append(n.Kids, g.IntN(len(l)))
	case 2:
		n.Kids = nil
	case 3:
		n.Unit = pick(g, "", "E", "END", "A")
	}
}

// R3: nil slices and empty ones are the same, and arguments are not changed.
func TestArguments(t *testing.T) {
	libraries(82, 200, func(g *generator, l []api.Unit) {
		kept := copiesOf(l)
		name := pick(g, "A", "B", "E", "I", "G")
		a := answersOf(l, name)
		if !sameUnits(l, kept) {
			t.Fatalf("arguments are changed: %+v instead of %+v", l, kept)
		}
		if b := answersOf(kept, name); !sameAnswers(a, b) {
			t.Fatalf("empty slices make a difference: %+v, %+v", a, b)
		}
	})
}

// R3: results share no memory with arguments, with each other, or in themselves.
func TestResultsAreNewMemory(t *testing.T) {
	libraries(83, 300, func(g *generator, l []api.Unit) {
		kept := copiesOf(l)
		first, _ := generic.Expand(l)
		second, _ := generic.Expand(l)
		want := copiesOf(first)
		grow(first)
		if !sameUnits(first, want) {
			t.Fatalf("slices of one result share memory: %+v instead of %+v", first, want)
		}
		overwrite(first)
		if !sameUnits(l, kept) || !sameUnits(second, want) {
			t.Fatalf("Expand shares memory: %+v, %+v", l, second)
		}
		for _, i := range l {
			at := find(l, i.Kind, i.Of)
			if i.Of == "" || at < 0 {
				continue
			}
			u, _ := generic.Apply(l[at], i)
			v, _ := generic.Apply(l[at], i)
			want := copyOf(v)
			overwrite([]api.Unit{u})
			if !sameUnits(l, kept) || !sameUnit(v, want) {
				t.Fatalf("Apply shares memory: %+v, %+v", l, v)
			}
		}
	})
}

// trees returns the lists of nodes of a unit.
func trees(u api.Unit) [][]api.Node {
	l := [][]api.Node{u.Body}
	for _, d := range u.Decls {
		l = append(l, d.Nodes, d.Body)
	}
	return l
}

// grow appends to all slices of units, and leaves these as they are: only what shares memory with one of them would change.
func grow(l []api.Unit) {
	_ = append(l, api.Unit{Kind: 255})
	for _, u := range l {
		for _, list := range [][]string{u.Formals, u.Actuals, u.Exports, u.Imports} {
			_ = append(list, "grown")
		}
		_ = append(u.Decls, api.Decl{Kind: 255})
		for _, nodes := range trees(u) {
			_ = append(nodes, api.Node{Kind: 255})
			for _, n := range nodes {
				_ = append(n.Kids, -1)
			}
		}
	}
}

// overwrite clears all that is in the slices of units.
func overwrite(l []api.Unit) {
	for _, u := range l {
		for _, list := range [][]string{u.Formals, u.Actuals, u.Exports, u.Imports} {
			clear(list[:cap(list)])
		}
		for _, nodes := range trees(u) {
			for _, n := range nodes {
				clear(n.Kids[:cap(n.Kids)])
			}
			clear(nodes[:cap(nodes)])
		}
		clear(u.Decls[:cap(u.Decls)])
	}
	clear(l[:cap(l)])
}
