package sub

import (
	"iter"

	"trestle/api"
)

// rules returns the rules, in the order of their numbers: each returns the steps by it that lead from a type.
func rules() [api.RuleAny]func(v *Env, from int) []api.Step {
	return [...]func(*Env, int) []api.Step{
		(*Env).bySame,
		(*Env).byRange,
		(*Env).byNull,
		(*Env).bySuper,
		(*Env).byReveal,
		(*Env).byBack,
		(*Env).byAny,
	}
}

// steps yields all steps that lead from a type.
func (v *Env) steps(from int) iter.Seq[api.Step] {
	return func(yield func(api.Step) bool) {
		for _, by := range rules() {
			for _, s := range by(v, from) {
				if !yield(s) {
					return
				}
			}
		}
	}
}

// stepsTo returns a step by a rule, and perhaps by a revelation, to each type that fits.
func (v *Env) stepsTo(rule uint8, n int, fits func(to int) bool) []api.Step {
	var steps []api.Step
	for to := range v.list {
		if fits(to) {
			steps = append(steps, api.Step{Rule: rule, To: to, N: n})
		}
	}
	return steps
}

func (v *Env) bySame(from int) []api.Step {
	return v.stepsTo(api.RuleSame, 0, func(to int) bool { return v.class[to] == v.class[from] })
}

func (v *Env) byRange(from int) []api.Step {
	if v.kind(from) != api.KdRange {
		return nil
	}
	return v.stepsTo(api.RuleRange, 0, func(to int) bool {
		low, high, has := v.numbers(to)
		return has && low <= v.list[from].Low && v.list[from].High <= high
	})
}

func (v *Env) byNull(from int) []api.Step {
	if v.kind(from) != api.KdNull {
		return nil
	}
	return v.stepsTo(api.RuleNull, 0, v.isReference)
}

func (v *Env) bySuper(from int) []api.Step {
	switch v.kind(from) {
	case api.KdObject, api.KdOpaque:
		return []api.Step{{Rule: api.RuleSuper, To: v.list[from].Super}}
	}
	return nil
}

// byReveal finds no revelations for types that are not opaque: they have no symbol.
func (v *Env) byReveal(from int) []api.Step {
	var steps []api.Step
	for _, n := range v.named[v.list[from].Opaque] {
		steps = append(steps, api.Step{Rule: api.RuleReveal, To: v.reveals[n].Type, N: n})
	}
	return steps
}

func (v *Env) byBack(from int) []api.Step {
	var steps []api.Step
	for n, r := range v.reveals {
		if r.Full && r.Type == from {
			steps = append(steps, v.stepsTo(api.RuleBack, n, func(to int) bool { return v.list[to].Opaque == r.Name })...)
		}
	}
	return steps
}

func (v *Env) byAny(from int) []api.Step {
	var above uint8
	switch v.kind(from) {
	case api.KdMutex, api.KdCondition:
		above = api.KdRoot
	case api.KdRoot, api.KdRef, api.KdRecord, api.KdArray:
		above = api.KdAny
	default:
		return nil
	}
	return v.stepsTo(api.RuleAny, 0, func(to int) bool { return v.kind(to) == above })
}
