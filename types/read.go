package types

import (
	"strconv"
	"strings"

	"trestle/api"
)

// readGraph returns the types whose lines are a text, or none. It takes more than there are texts of types: whoever calls it writes what was read once more, and holds the two texts together.
func readGraph(s string) (g api.Graph) {
	defer func() {
		if _, gaveUp := recover().(api.Errno); gaveUp {
			g = nil
		}
	}()
	r := reader{rest: s}
	lead := newTable()
	for r.rest != "" {
		kind := r.number()
		if !isKind(kind) {
			giveUp()
		}
		t := api.Ty{Kind: uint8(kind)}
		lead[kind](&r, &t)
		r.need("\n")
		g = append(g, t)
	}
	return g
}

func giveUp() { panic(api.ErrForm) }

// reader is a visitor that reads what types have.
type reader struct{ rest string }

// take takes a sign, if it is next.
func (r *reader) take(sign string) bool {
	rest, ok := strings.CutPrefix(r.rest, sign)
	r.rest = rest
	return ok
}

// need takes a sign, which has to be next.
func (r *reader) need(sign string) {
	if !r.take(sign) {
		giveUp()
	}
}

// until takes what stands ahead of the first of some signs.
func (r *reader) until(signs string) string {
	end := strings.IndexAny(r.rest, signs)
	if end < 0 {
		giveUp()
	}
	taken := r.rest[:end]
	r.rest = r.rest[end:]
	return taken
}

func (r *reader) number() int {
	n, err := strconv.Atoi(r.until(" ,()!=\n"))
	if err != nil {
		giveUp()
	}
	return n
}

func (r *reader) symbol() string { return r.until(" ,=\n") }

func (r *reader) numberApart() int {
	r.need(" ")
	return r.number()
}

// item takes a blank, a name and a sign, if they are next.
func (r *reader) item(sign string) (string, bool) {
	item, ok := strings.CutPrefix(r.rest, " ")
	if !ok {
		return "", false
	}
	name := letters(item)
	rest, ok := strings.CutPrefix(item[len(name):], sign)
	if !ok {
		return "", false
	}
	r.rest = rest
	return name, true
}

func (r *reader) bounds(t *api.Ty) {
	t.Low = r.numberApart()
	t.High = r.numberApart()
}

func (r *reader) brand(t *api.Ty) {
	if !r.take(` "`) {
		r.need(" -")
		return
	}
	t.Branded, t.Brand = true, r.until(`"`)
	r.need(`"`)
}

func (r *reader) opaque(t *api.Ty) {
	r.need(" ")
	t.Opaque = r.symbol()
}

func (r *reader) super(t *api.Ty) { t.Super = r.numberApart() }

func (r *reader) part(t *api.Ty) { r.fields(t) }

func (r *reader) fields(t *api.Ty) {
	for name, ok := r.item(":"); ok; name, ok = r.item(":") {
		t.Parts = append(t.Parts, api.Part{Name: name, Type: r.number()})
	}
}

func (r *reader) methods(t *api.Ty) {
	for name, ok := r.item("("); ok; name, ok = r.item("(") {
		m := api.Method{Name: name, Sig: r.sig()}
		if r.take("=") {
			m.Proc = r.symbol()
		}
		t.Methods = append(t.Methods, m)
	}
}

// sig reads a signature behind its first bracket.
func (r *reader) sig() api.Sig {
	s := api.Sig{Result: -1}
	if !r.take(")") {
		s.Args = append(s.Args, r.number())
		for r.take(",") {
			s.Args = append(s.Args, r.number())
		}
		r.need(")")
	}
	if !r.take("-") {
		s.Result = r.number()
	}
	if r.take("!") {
		s.Raises = append(s.Raises, r.symbol())
		for r.take(",") {
			s.Raises = append(s.Raises, r.symbol())
		}
	}
	return s
}

func (r *reader) overs(t *api.Ty) {
	for name, ok := r.item("="); ok; name, ok = r.item("=") {
		t.Overs = append(t.Overs, api.Over{Name: name, Proc: r.symbol()})
	}
}
