package sub_test

import (
	"fmt"
	"slices"
	"strings"

	"trestle/api"
	"trestle/types"
)

// model is an environment, and the chapter's definitions once more: what the package finds is held against them.
type model struct {
	g     api.Graph
	l     []api.Reveal
	class []int
	far   [][]int // the length of the shortest derivation, or -1
}

func isWord(t api.Ty) bool { return t.Kind == 1 || t.Kind == 2 || t.Kind == 3 }

func hasSuper(t api.Ty) bool { return t.Kind == 12 || t.Kind == 13 }

// checkByDefinition returns what Check should.
func checkByDefinition(g api.Graph, l []api.Reveal) api.Errno {
	if _, e := types.Check(g); e != api.OK {
		return e
	}
	if len(l) > 60 {
		return api.ErrLimit
	}
	fulls := map[string]int{}
	for _, r := range l {
		if !types.IsSymbol(r.Name) || r.Type < 0 || r.Type >= len(g) {
			return api.ErrEnv
		}
		t := g[r.Type]
		if r.Full {
			fulls[r.Name]++
		}
		if fulls[r.Name] > 1 || r.Full && !t.Branded || isWord(t) || t.Kind == 5 {
			return api.ErrEnv
		}
	}
	class := classesOf(g)
	for i := range g {
		if goesRound(g, l, class, i) {
			return api.ErrEnv
		}
	}
	return api.OK
}

// goesRound tells whether a type comes to itself: by Supers and revelations, and between from types to such as are the same.
func goesRound(g api.Graph, l []api.Reveal, class []int, first int) bool {
	reached := onward(g, l, first)
	for at := 0; at < len(reached); at++ {
		for i := range g {
			if class[i] == class[reached[at]] {
				for _, next := range onward(g, l, i) {
					if !slices.Contains(reached, next) {
						reached = append(reached, next)
					}
				}
			}
		}
	}
	return slices.Contains(reached, first)
}

func onward(g api.Graph, l []api.Reveal, i int) []int {
	var next []int
	if hasSuper(g[i]) {
		next = append(next, g[i].Super)
	}
	for _, r := range l {
		if g[i].Kind == 13 && r.Name == g[i].Opaque {
			next = append(next, r.Type)
		}
	}
	return next
}

// modelOf returns the model of a right environment.
func modelOf(g api.Graph, l []api.Reveal) model {
	m := model{g: g, l: l, class: classesOf(g)}
	ways := make([][]int, len(g))
	for i := range g {
		for s := range m.anySteps() {
			if m.leads(i, s) {
				ways[i] = append(ways[i], s.To)
			}
		}
	}
	for i := range g {
		far := slices.Repeat([]int{-1}, len(g))
		far[i] = 0
		for at, reached := 0, []int{i}; at < len(reached); at++ {
			for _, next := range ways[reached[at]] {
				if far[next] < 0 {
					far[next] = far[reached[at]] + 1
					reached = append(reached, next)
				}
			}
		}
		m.far = append(m.far, far)
	}
	return m
}

// anySteps yields steps by all numbers of rules, types and revelations, and by such as there are not.
func (m model) anySteps() func(func(api.Step) bool) {
	return func(yield func(api.Step) bool) {
		for rule := range uint8(9) {
			for to := -1; to <= len(m.g); to++ {
				for n := -1; n <= len(m.l); n++ {
					if !yield(api.Step{Rule: rule, To: to, N: n}) {
						return
					}
				}
			}
		}
	}
}

// leads tells whether there is a step from a type, as the table of the rules says.
func (m model) leads(from int, s api.Step) bool {
	if s.To < 0 || s.To >= len(m.g) || s.N < 0 || s.N > 0 && s.Rule != 5 && s.Rule != 6 {
		return false
	}
	a, b := m.g[from], m.g[s.To]
	r := api.Reveal{Type: -1}
	if s.N < len(m.l) {
		r = m.l[s.N]
	}
	switch s.Rule {
	case 1:
		return m.class[from] == m.class[s.To]
	case 2:
		return a.Kind == 3 && (b.Kind == 1 || b.Kind == 3 && b.Low <= a.Low && b.High >= a.High)
	case 3:
		return a.Kind == 5 && !isWord(b)
	case 4:
		return hasSuper(a) && s.To == a.Super
	case 5:
		return a.Kind == 13 && r.Name == a.Opaque && r.Type == s.To
	case 6:
		return r.Full && r.Type == from && b.Kind == 13 && b.Opaque == r.Name
	case 7:
		return strings.Contains("|7 6|8 6|6 4|9 4|10 4|11 4|", fmt.Sprintf("|%d %d|", a.Kind, b.Kind))
	}
	return false
}

// derives tells whether a list is a derivation.
func (m model) derives(a, b int, l []api.Step) bool {
	if len(l) == 0 {
		return a == b
	}
	return m.leads(a, l[0]) && m.derives(l[0].To, b, l[1:])
}

func (m model) below(a, b int) bool { return m.far[a][b] >= 0 }

func (m model) above(a int) []int {
	var l []int
	for b := range m.g {
		if m.below(a, b) {
			l = append(l, b)
		}
	}
	return l
}

// join returns the least common supertype, or -1.
func (m model) join(a, b int) int {
	for i := range m.g {
		least := m.below(a, i) && m.below(b, i)
		for j := range m.g {
			if m.below(a, j) && m.below(b, j) && !m.below(i, j) {
				least = false
			}
		}
		if least {
			return i
		}
	}
	return -1
}

func isNumbers(t api.Ty) bool { return t.Kind == 1 || t.Kind == 3 }

func hasNumber(t api.Ty, n int) bool { return t.Kind == 1 || t.Low <= n && n <= t.High }

// assign returns how values are assigned, where ranges lie between -20 and 40.
func (m model) assign(to, from int) (api.Assign, api.Errno) {
	t, f := m.g[to], m.g[from]
	if m.below(from, to) {
		return api.Assign{Kind: 1}, api.OK
	}
	for n := -20; n <= 40; n++ {
		if isNumbers(t) && isNumbers(f) && hasNumber(t, n) && hasNumber(f, n) {
			return api.Assign{Kind: 2, Low: t.Low, High: t.High}, api.OK
		}
	}
	if !isWord(t) && !isWord(f) && m.below(to, from) {
		return api.Assign{Kind: 3}, api.OK
	}
	return api.Assign{}, api.ErrAssign
}

// line returns the line of a type: nobody comes round, so that what stands there already is just what comes again.
func (m model) line(t int) []int {
	var once []int
	for _, i := range m.wholeLine(t) {
		if !slices.Contains(once, i) {
			once = append(once, i)
		}
	}
	return once
}

// wholeLine returns the line of a type, in which types may stand more than once.
func (m model) wholeLine(t int) []int {
	l := []int{t}
	if m.g[t].Kind == 12 {
		return append(l, m.wholeLine(m.g[t].Super)...)
	}
	if m.g[t].Kind != 13 {
		return l
	}
	for _, r := range m.l {
		if r.Name == m.g[t].Opaque && r.Full {
			return append(l, m.wholeLine(r.Type)...)
		}
	}
	for _, r := range m.l {
		if r.Name == m.g[t].Opaque {
			l = append(l, m.wholeLine(r.Type)...)
		}
	}
	return append(l, m.wholeLine(m.g[t].Super)...)
}

// field returns what Field should.
func (m model) field(t int, name string) found {
	for _, i := range m.line(t) {
		for k, p := range m.g[i].Parts {
			if (m.g[i].Kind == 10 || m.g[i].Kind == 12) && p.Name == name {
				return found{i, k, api.OK}
			}
		}
	}
	return found{e: api.ErrNone}
}

// method returns what Method should.
func (m model) method(t int, name string) found {
	for _, i := range m.line(t) {
		for k, x := range m.g[i].Methods {
			if x.Name == name {
				return found{i, k, api.OK}
			}
		}
	}
	return found{e: api.ErrNone}
}
