package reveal

import (
	"slices"

	"trestle/api"
	"trestle/sub"
)

// faults are the searches for the faults of a library's revelations, in their order.
func faults() [6]func(*sight) {
	return [...]func(*sight){
		(*sight).checkCount,
		(*sight).checkFulls,
		(*sight).checkChains,
		(*sight).checkSupers,
		(*sight).checkAll,
		(*sight).checkLines,
	}
}

// opened returns a sight of a library, or the fault with which a search gave up.
func opened(l []api.Unit) (s *sight, f api.Fault) {
	defer func() {
		if gaveUp, ok := recover().(api.Fault); ok {
			s, f = nil, gaveUp
		}
	}()
	s = look(l)
	for _, check := range faults() {
		check(s)
	}
	return s, api.Fault{}
}

func giveUp(e api.Errno, at int) { panic(api.Fault{Err: e, At: at}) }

// checkCount is number 1, behind the fault of the library itself.
func (s *sight) checkCount() {
	if len(s.Shown) > api.MaxReveals {
		giveUp(api.ErrLimit, 0)
	}
}

// checkFulls is number 2: each opaque type has one Full revelation. By these there is a concrete graph.
func (s *sight) checkFulls() {
	s.fulls = fullsOf(s.all())
	var places []int
	for _, d := range s.opaques {
		if _, ok := s.fulls[d.symbol]; !ok {
			places = append(places, d.place)
		}
	}
	for n, r := range s.Shown {
		another := func(ahead api.Shown) bool { return ahead.Full && ahead.Name == r.Name }
		if r.Full && slices.ContainsFunc(s.Shown[:n], another) {
			places = append(places, s.reveals[n])
		}
	}
	if len(places) > 0 {
		giveUp(api.ErrFull, slices.Min(places))
	}
	s.concrete = s.fulls.concrete(s.Graph)
}

// checkChains is number 3: no type comes back to itself by Supers, as it really is.
func (s *sight) checkChains() {
chains:
	for i := range s.concrete {
		at := i
		for range s.concrete {
			if s.concrete[at].Kind != api.KdObject {
				continue chains
			}
			at = s.concrete[at].Super
			if at == i {
				giveUp(api.ErrCircle, i)
			}
		}
	}
}

// checkSupers is number 4: what an object type stands below can really be a Super.
func (s *sight) checkSupers() {
	for i, t := range s.concrete {
		if t.Kind != api.KdObject {
			continue
		}
		switch s.concrete[t.Super].Kind {
		case api.KdObject, api.KdRoot, api.KdMutex, api.KdCondition:
		default:
			giveUp(api.ErrSuper, i)
		}
	}
}

// checkAll is number 5: who sees everything sees nothing that goes round in a circle. Then it can be asked what really lies below what.
func (s *sight) checkAll() {
	if sub.Check(s.Graph, s.all()) != api.OK {
		giveUp(api.ErrCircle, 0)
	}
	s.really, _ = sub.In(s.concrete, nil)
}

// checkLines is number 6: all that is revealed of an opaque type lies in one line.
func (s *sight) checkLines() {
	for n := range s.Shown {
		if !s.liesInLine(n) {
			giveUp(api.ErrLine, s.reveals[n])
		}
	}
}
