package world

import "trestle/api"

// world returns what there is in the library.
func (l *library) world() api.World {
	w := api.World{Graph: copied(l.graph), Units: keysOf(l.members), Order: l.order()}
	for d := range l.decls() {
		l.tell(&w, d)
	}
	bySymbol := func(p api.Part) string { return p.Name }
	sortBy(w.Consts, func(c api.Const) string { return c.Name })
	sortBy(w.Types, bySymbol)
	sortBy(w.Vars, bySymbol)
	sortBy(w.Procs, func(h api.Heading) string { return h.Name })
	sortBy(w.Excs, func(symbol string) string { return symbol })
	return w
}

// tell adds what a declaration declares.
func (l *library) tell(w *api.World, d *decl) {
	switch d.Kind {
	case api.DcConst:
		w.Consts = append(w.Consts, api.Const{Name: d.symbol, Bool: d.value.Bool, N: d.value.N})
	case api.DcType, api.DcOpaque:
		w.Types = append(w.Types, api.Part{Name: d.symbol, Type: l.typeOf(d)})
	case api.DcVar:
		w.Vars = append(w.Vars, api.Part{Name: d.symbol, Type: l.typeOf(d)})
	case api.DcExcept:
		w.Excs = append(w.Excs, d.symbol)
	case api.DcProc:
		l.tellProcedure(w, d)
	case api.DcReveal:
		r := api.Reveal{Name: l.revealed(d).symbol, Full: d.N == 1, Type: l.typeOf(d)}
		w.Shown = append(w.Shown, api.Shown{Unit: d.in.key(), Reveal: r})
	}
}

// tellProcedure adds a procedure. One that implements another one is no further one.
func (l *library) tellProcedure(w *api.World, d *decl) {
	if d.implements != nil {
		return
	}
	in := d.in
	if d.implementedBy != nil {
		in = d.implementedBy
	}
	w.Procs = append(w.Procs, api.Heading{Name: d.symbol, Sig: l.sigOf(d), Module: in.key()})
}
