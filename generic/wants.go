package generic

import (
	"cmp"
	"iter"
	"maps"
	"slices"

	"trestle/api"
)

// Places of the sorts in which names are used, or offered.
const (
	typeSort = iota
	exceptionSort
	procedureSort
	valueSort
	sortCount
)

// sorts says of a name in which sorts it is used, or offered.
type sorts [sortCount]bool

func (s *sorts) addType() { s[typeSort] = true }

func (s *sorts) addException() { s[exceptionSort] = true }

func (s *sorts) addProcedure() { s[procedureSort] = true }

func (s *sorts) addValue() { s[valueSort] = true }

// isIn reports whether others have all of some sorts.
func (s sorts) isIn(others sorts) bool {
	common := s
	for i, has := range others {
		common[i] = common[i] && has
	}
	return common == s
}

// wants is names with their sorts.
type wants map[string]sorts

// add adds a sort to those of a name.
func (w wants) add(name string, addSort func(*sorts)) {
	s := w[name]
	addSort(&s)
	w[name] = s
}

// list returns what is wanted, in ascending order of the names.
func (w wants) list() []api.Want {
	var list []api.Want
	for _, name := range ascending(w) {
		s := w[name]
		list = append(list, api.Want{Name: name, Type: s[typeSort], Exception: s[exceptionSort], Procedure: s[procedureSort], Value: s[valueSort]})
	}
	return list
}

// ascending returns the keys of a map in ascending order.
func ascending[K cmp.Ordered, V any](m map[K]V) []K { return slices.Sorted(maps.Keys(m)) }

// declaredSorts says in which sort a name is offered by each kind of declarations.
func declaredSorts() map[uint8]func(*sorts) {
	return map[uint8]func(*sorts){
		api.DcType:   (*sorts).addType,
		api.DcOpaque: (*sorts).addType,
		api.DcExcept: (*sorts).addException,
		api.DcProc:   (*sorts).addProcedure,
		api.DcConst:  (*sorts).addValue,
		api.DcVar:    (*sorts).addValue,
	}
}

// declared returns what the declarations of a unit offer.
func declared(u api.Unit) wants {
	w := wants{}
	addSort := declaredSorts()
	for _, d := range u.Decls {
		if d.Kind != api.DcReveal {
			w.add(d.Name, addSort[d.Kind])
		}
	}
	return w
}

// asked returns what a unit asks of a qualifier. Where no qualifier stands, nothing is asked of it.
func asked(u api.Unit, qualifier string) wants {
	w := wants{}
	use := func(unit, name string, addSort func(*sorts)) {
		if unit != "" && unit == qualifier {
			w.add(name, addSort)
		}
	}
	for _, d := range u.Decls {
		if d.Kind == api.DcReveal {
			use(d.Unit, d.Name, (*sorts).addType)
		}
	}
	for n, namesProcedure := range nodes(u) {
		switch n.Kind {
		case api.TyName:
			use(n.Unit, n.Name, (*sorts).addType)
		case api.NdRaise, api.StRaise, api.NdWhen:
			use(n.Unit, n.Name, (*sorts).addException)
		case api.ExName:
			if namesProcedure {
				use(n.Unit, n.Name, (*sorts).addProcedure)
			} else {
				use(n.Unit, n.Name, (*sorts).addValue)
			}
		}
	}
	return w
}

// nodes yields all nodes of a unit, each with whether it stands where a procedure is named.
func nodes(u api.Unit) iter.Seq2[api.Node, bool] {
	trees := [][]api.Node{u.Body}
	for _, d := range u.Decls {
		trees = append(trees, d.Nodes, d.Body)
	}
	return func(yield func(api.Node, bool) bool) {
		for _, l := range trees {
			places := procedurePlaces(l)
			for i, n := range l {
				if !yield(n, places[i]) {
					return
				}
			}
		}
	}
}

// procedurePlaces returns the indices of the nodes of a tree that stand where a name, if it is one, is that of a procedure.
func procedurePlaces(l []api.Node) map[int]bool {
	places := map[int]bool{}
	for _, n := range l {
		switch n.Kind {
		case api.ExCall, api.NdOver:
			places[n.Kids[0]] = true
		case api.NdMethod: // The procedure is behind the signature, if there is one.
			places[n.Kids[len(n.Kids)-1]] = true
		}
	}
	return places
}
