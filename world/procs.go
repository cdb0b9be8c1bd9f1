package world

import (
	"slices"

	"trestle/api"
	"trestle/types"
)

// implement is number 9: procedures of modules have the signatures of those that they implement, and each is implemented but once.
func (l *library) implement() {
	class, _ := types.Classes(l.graph)
	isSame := func(a, b int) bool { return a == b || a != -1 && b != -1 && class[a] == class[b] }
	for d := range l.decls() {
		p := d.implements
		if p == nil {
			continue
		}
		s, t := l.sigOf(d), l.sigOf(p)
		if !slices.EqualFunc(s.Args, t.Args, isSame) || !isSame(s.Result, t.Result) || !slices.Equal(s.Raises, t.Raises) {
			giveUp(api.ErrSig, d.place())
		}
		if p.implementedBy != nil {
			giveUp(api.ErrTwice, d.place())
		}
		p.implementedBy = d.in
	}
}

// sigOf returns the signature of a procedure.
func (l *library) sigOf(d *decl) api.Sig { return l.sig(d.source, d.source.root()) }

// checkLacking is number 10: each procedure of an interface is implemented.
func (l *library) checkLacking() {
	for d := range l.decls() {
		if d.isA(api.DcProc) && d.in.Kind == api.UnInterface && d.implementedBy == nil {
			giveUp(api.ErrLacking, d.place())
		}
	}
}
