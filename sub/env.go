package sub

import (
	"slices"

	"trestle/api"
	"trestle/types"
)

// Env is an environment that can be asked.
type Env struct {
	graph
	reveals []api.Reveal
	named   map[string][]int // the revelations that have a Name, in their order
	above   []set            // for each type those that it lies below
}

// opened returns a right environment, which does not know yet what lies below what.
func opened(g api.Graph, l []api.Reveal) (*Env, api.Errno) {
	class, e := types.Classes(g)
	if e != api.OK {
		return nil, e
	}
	if len(l) > api.MaxReveals {
		return nil, api.ErrLimit
	}
	// Joined with no types, the graph is a copy, which nobody else can change.
	list, _ := types.Join(g, nil)
	v := &Env{
		graph:   graph{list, class},
		reveals: slices.Clone(l),
		named:   map[string][]int{},
	}
	for n, r := range l {
		v.named[r.Name] = append(v.named[r.Name], n)
	}
	for n := range l {
		if !v.isRight(n) {
			return nil, api.ErrEnv
		}
	}
	if v.isCircular() {
		return nil, api.ErrEnv
	}
	return v, api.OK
}

// isRight reports whether a revelation may stand where it does.
func (v *Env) isRight(n int) bool {
	r := v.reveals[n]
	if !types.IsSymbol(r.Name) || !v.isIndex(r.Type) {
		return false
	}
	if r.Full {
		return v.list[r.Type].Branded && v.full(r.Name) == n
	}
	return v.isReference(r.Type) && v.kind(r.Type) != api.KdNull
}

// full returns the first revelation with a Name that is Full, or -1.
func (v *Env) full(name string) int {
	for _, n := range v.named[name] {
		if v.reveals[n].Full {
			return n
		}
	}
	return -1
}

// isCircular reports whether a type comes to itself by Supers and revelations. It is enough to follow indices: types that are the same lead to types that are the same, so that who goes round by way of these can do so without them.
func (v *Env) isCircular() bool {
	ahead := make([]set, len(v.list))
	for i := range ahead {
		for _, s := range append(v.bySuper(i), v.byReveal(i)...) {
			ahead[i].add(s.To)
		}
	}
	complete(ahead)
	for i := range ahead {
		if ahead[i].has(i) {
			return true
		}
	}
	return false
}

// allAbove returns for each type those that it lies below. It is one of them itself, by RuleSame.
func (v *Env) allAbove() []set {
	above := make([]set, len(v.list))
	for i := range above {
		for s := range v.steps(i) {
			above[i].add(s.To)
		}
	}
	complete(above)
	return above
}
