package reveal

import (
	"slices"

	"trestle/api"
	"trestle/sub"
	"trestle/world"
)

// sight is what is found out about the revelations of a library.
type sight struct {
	api.World
	view     *world.View
	open     []map[string]bool // for each unit the keys of those whose revelations it sees
	opaques  []declared
	reveals  []int // for each of Shown its place
	fulls    fulls
	concrete api.Graph
	really   *sub.Env // the concrete graph, without revelations
}

// declared is a symbol, and the place at which it is declared.
type declared struct {
	symbol string
	place  int
}

// look keeps what there is in a library. It gives up if that has a fault.
func look(l []api.Unit) *sight {
	view, f := world.In(l)
	if f.Err != api.OK {
		panic(f)
	}
	s := &sight{view: view}
	s.World, _ = view.World()
	heads := headsOf(l)
	for i, u := range l {
		for k, d := range u.Decls {
			place := 100*i + k + 1
			switch d.Kind {
			case api.DcOpaque:
				s.opaques = append(s.opaques, declared{u.Name + "." + d.Name, place})
			case api.DcReveal:
				s.reveals = append(s.reveals, place)
			}
		}
		s.open = append(s.open, openTo(heads, i))
	}
	return s
}

// headsOf returns units without what they declare: it says nothing of exports, and takes long to be looked at again for each unit.
func headsOf(l []api.Unit) []api.Unit {
	heads := slices.Clone(l)
	for i := range heads {
		heads[i].Decls = nil
	}
	return heads
}

// openTo returns the keys of the units whose revelations a unit sees.
func openTo(l []api.Unit, i int) map[string]bool {
	exports, _ := world.Exports(l, i)
	keys := map[string]bool{world.Key(l[i]): true}
	for _, name := range slices.Concat(l[i].Imports, exports) {
		keys[world.Key(api.Unit{Kind: api.UnInterface, Name: name})] = true
	}
	return keys
}

// all returns all revelations.
func (s *sight) all() []api.Reveal {
	var list []api.Reveal
	for _, shown := range s.Shown {
		list = append(list, shown.Reveal)
	}
	return list
}

// sees returns the revelations that a unit sees.
func (s *sight) sees(unit int) []api.Reveal {
	var list []api.Reveal
	for _, shown := range s.Shown {
		if s.open[unit][shown.Unit] {
			list = append(list, shown.Reveal)
		}
	}
	return list
}
