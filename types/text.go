package types

import (
	"strconv"
	"strings"

	"trestle/api"
)

// numbered returns the different types that a type reaches, in the order of the numbers that its text gives them.
func numbered(g api.Graph, a int) api.Graph {
	class := classes(g)
	order, number := reachedFrom(g, a, func(i int) int { return class[i] })
	var to []int
	for _, c := range class {
		to = append(to, number[c])
	}
	return picked(g, order, to)
}

// textOf returns the lines of the types of a graph.
func textOf(g api.Graph) string {
	var w writer
	lead := newTable()
	for i := range g {
		w.number(int(g[i].Kind))
		lead[g[i].Kind](&w, &g[i])
		w.WriteByte('\n')
	}
	return w.String()
}

// writer is a visitor that writes what types have.
type writer struct{ strings.Builder }

func (w *writer) number(n int) { w.WriteString(strconv.Itoa(n)) }

func (w *writer) numberApart(n int) {
	w.WriteByte(' ')
	w.number(n)
}

func (w *writer) bounds(t *api.Ty) {
	w.numberApart(t.Low)
	w.numberApart(t.High)
}

func (w *writer) brand(t *api.Ty) {
	if t.Branded {
		w.WriteString(` "` + t.Brand + `"`)
	} else {
		w.WriteString(" -")
	}
}

func (w *writer) opaque(t *api.Ty) { w.WriteString(" " + t.Opaque) }

func (w *writer) super(t *api.Ty) { w.numberApart(t.Super) }

func (w *writer) part(t *api.Ty) { w.fields(t) }

func (w *writer) fields(t *api.Ty) {
	for _, p := range t.Parts {
		w.WriteString(" " + p.Name + ":")
		w.number(p.Type)
	}
}

func (w *writer) methods(t *api.Ty) {
	for _, m := range t.Methods {
		w.WriteString(" " + m.Name)
		w.sig(m.Sig)
		if m.Proc != "" {
			w.WriteString("=" + m.Proc)
		}
	}
}

func (w *writer) sig(s api.Sig) {
	w.WriteByte('(')
	for i, a := range s.Args {
		if i > 0 {
			w.WriteByte(',')
		}
		w.number(a)
	}
	w.WriteByte(')')
	if s.Result == -1 {
		w.WriteByte('-')
	} else {
		w.number(s.Result)
	}
	if len(s.Raises) > 0 {
		w.WriteString("!" + strings.Join(s.Raises, ","))
	}
}

func (w *writer) overs(t *api.Ty) {
	for _, o := range t.Overs {
		w.WriteString(" " + o.Name + "=" + o.Proc)
	}
}

const (
	firstDigest   = 5381
	digestFactor  = 257
	digestModulus = 9007199254740881
	digestBase    = 36
	digestDigits  = 12
)

// Digest returns the short print of any text.
func Digest(s string) string {
	h := firstDigest
	for i := range len(s) {
		h = (digestFactor*h + int(s[i])) % digestModulus
	}
	digits := strings.ToUpper(strconv.FormatInt(int64(h), digestBase))
	return "T" + strings.Repeat("0", digestDigits-len(digits)) + digits
}
