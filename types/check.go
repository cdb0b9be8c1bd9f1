package types

import (
	"slices"

	"trestle/api"
)

// firstUnfit returns the first type that is not as the table says, or -1.
func firstUnfit(g api.Graph) int {
	lead := newTable()
	for i, t := range g {
		if !isKind(int(t.Kind)) {
			return i
		}
		c := checker{g: g, fits: true}
		lead[t.Kind](&c, &t)
		if !c.fits || !isBare(t) {
			return i
		}
	}
	return -1
}

// firstAboveItself returns the first type from which Supers alone lead back to itself, or -1.
func firstAboveItself(g api.Graph) int {
	for i := range g {
		at := i
		for range g {
			if !hasSuper(g[at].Kind) {
				break
			}
			at = g[at].Super
			if at == i {
				return i
			}
		}
	}
	return -1
}

// isBare reports whether a type has nothing but a Kind.
func isBare(t api.Ty) bool {
	return plainOf(t) == plain{kind: t.Kind} && t.Super == 0 && len(t.Parts)+len(t.Methods)+len(t.Overs) == 0
}

// checker is a visitor that looks whether what a type has is as it should be, and takes it away, so that what is left then is what the type should not have.
type checker struct {
	g    api.Graph
	fits bool
}

func (c *checker) need(ok bool) { c.fits = c.fits && ok }

func (c *checker) index(i int) { c.need(isIndex(c.g, i)) }

func (c *checker) bounds(t *api.Ty) {
	c.need(-api.MaxInt <= t.Low && t.Low <= t.High && t.High <= api.MaxInt)
	t.Low, t.High = 0, 0
}

func (c *checker) brand(t *api.Ty) {
	c.need(isBrand(t.Brand) && (t.Branded || t.Brand == ""))
	t.Branded, t.Brand = false, ""
}

func (c *checker) opaque(t *api.Ty) {
	c.need(IsSymbol(t.Opaque))
	t.Opaque = ""
}

func (c *checker) super(t *api.Ty) {
	c.need(isIndex(c.g, t.Super) && mayBeSuper(c.g[t.Super].Kind, t.Kind))
	t.Super = 0
}

func mayBeSuper(above, below uint8) bool {
	switch above {
	case api.KdObject, api.KdRoot, api.KdMutex, api.KdCondition, api.KdOpaque:
		return true
	case api.KdAny:
		return below == api.KdOpaque
	}
	return false
}

func (c *checker) part(t *api.Ty) {
	c.need(len(t.Parts) == 1 && t.Parts[0].Name == "" && isIndex(c.g, t.Parts[0].Type))
	t.Parts = nil
}

func (c *checker) fields(t *api.Ty) {
	c.need(len(t.Parts) > 0 || t.Kind != api.KdRecord)
	c.need(areNamed(t.Parts, func(p api.Part) string { return p.Name }))
	for _, p := range t.Parts {
		c.index(p.Type)
	}
	t.Parts = nil
}

func (c *checker) methods(t *api.Ty) {
	c.need(areNamed(t.Methods, func(m api.Method) string { return m.Name }))
	for _, m := range t.Methods {
		c.sig(m.Sig)
		c.need(m.Proc == "" || IsSymbol(m.Proc))
	}
	t.Methods = nil
}

func (c *checker) sig(s api.Sig) {
	c.need(len(s.Args) <= api.MaxArgs && len(s.Raises) <= api.MaxRaises)
	for _, a := range s.Args {
		c.index(a)
	}
	if s.Result != -1 {
		c.index(s.Result)
	}
	for i, r := range s.Raises {
		c.need(isException(r) && (i == 0 || s.Raises[i-1] < r))
	}
}

func (c *checker) overs(t *api.Ty) {
	c.need(areNamed(t.Overs, func(o api.Over) string { return o.Name }))
	for _, o := range t.Overs {
		c.need(IsSymbol(o.Proc))
	}
	t.Overs = nil
}

// areNamed reports whether items are not too many, and have different names.
func areNamed[T any](items []T, nameOf func(T) string) bool {
	if len(items) > api.MaxFields {
		return false
	}
	var names []string
	for _, item := range items {
		name := nameOf(item)
		if !IsName(name) || slices.Contains(names, name) {
			return false
		}
		names = append(names, name)
	}
	return true
}
