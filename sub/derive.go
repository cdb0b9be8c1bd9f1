package sub

import (
	"slices"

	"trestle/api"
)

// mostSteps is how many steps a list may have that is looked at.
const mostSteps = 1000

// arrival is how a search first came to a type: from another one, by a step.
type arrival struct {
	from int
	by   api.Step
}

// derive returns a shortest derivation by which a type lies below one that it is known to lie below.
func (v *Env) derive(a, b int) []api.Step {
	if a == b {
		return nil
	}
	came := map[int]arrival{a: {}}
	queue := []int{a}
search:
	for at := 0; at < len(queue); at++ {
		for s := range v.steps(queue[at]) {
			if _, ok := came[s.To]; ok {
				continue
			}
			came[s.To] = arrival{queue[at], s}
			if s.To == b {
				break search
			}
			queue = append(queue, s.To)
		}
	}
	var back []api.Step
	for at := b; at != a; at = came[at].from {
		back = append(back, came[at].by)
	}
	return turned(back)
}

// turned returns a list from its end to its beginning.
func turned[T any](list []T) []T {
	var other []T
	for _, item := range slices.Backward(list) {
		other = append(other, item)
	}
	return other
}

// derives reports whether steps lead, one behind the other, from a type to another one.
func (v *Env) derives(a, b int, l []api.Step) bool {
	for _, s := range l {
		if !v.leads(a, s) {
			return false
		}
		a = s.To
	}
	return a == b
}

// leads reports whether a step leads from a type to where it says.
func (v *Env) leads(from int, step api.Step) bool {
	for s := range v.steps(from) {
		if s == step {
			return true
		}
	}
	return false
}
