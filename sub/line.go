package sub

import "trestle/api"

// line returns the line of a type.
func (v *Env) line(t int) []int {
	var line []int
	var listed set
	var list func(int)
	list = func(i int) {
		if listed.has(i) {
			return
		}
		listed.add(i)
		line = append(line, i)
		for _, next := range v.behind(i) {
			list(next)
		}
	}
	list(t)
	return line
}

// behind returns the types whose lines, one behind the other, follow a type in its line.
func (v *Env) behind(i int) []int {
	t := v.list[i]
	switch t.Kind {
	case api.KdObject:
		return []int{t.Super}
	case api.KdOpaque:
		if n := v.full(t.Opaque); n >= 0 {
			return []int{v.reveals[n].Type}
		}
		var revealed []int
		for _, s := range v.byReveal(i) {
			revealed = append(revealed, s.To)
		}
		return append(revealed, t.Super)
	}
	return nil
}

// declared returns the first type of a line in which a function finds something, and where it finds it.
func (v *Env) declared(t int, find func(api.Ty) int) (owner, at int, e api.Errno) {
	if e := v.asked(t); e != api.OK {
		return 0, 0, e
	}
	for _, owner := range v.line(t) {
		if at := find(v.list[owner]); at >= 0 {
			return owner, at, api.OK
		}
	}
	return 0, 0, api.ErrNone
}
