package tree_test

import (
	"math/rand/v2"

	"trestle/api"
)

// generator makes well-formed trees and units by chance. Names of units are never names of anything else, so that what stands ahead of a "." is read as it was written.
type generator struct {
	*rand.Rand
	nodes []api.Node
	// What is left of the nodes that a tree is to have; without any, the smallest forms are chosen.
	left int
	// The qualifiers of which a name may have one.
	qualifiers []string
}

func newGenerator(seed uint64) *generator {
	return &generator{Rand: rand.New(rand.NewPCG(seed, 2))}
}

func pick[T any](g *generator, from ...T) T { return from[g.IntN(len(from))] }

func (g *generator) name() string { return pick(g, "x", "y", "z", "p", "q", "T", "x1", "lengthOf12ab") }

func (g *generator) brand() string { return pick(g, "b", "a brand", "~(*", "twenty bytes of text") }

func (g *generator) add(n api.Node, kids ...int) int {
	n.Kids = kids
	g.nodes = append(g.nodes, n)
	g.left--
	return len(g.nodes) - 1
}

// tree returns what a function adds, of some size.
func (g *generator) tree(size int, grow func() int) []api.Node {
	g.nodes, g.left = nil, size
	grow()
	return g.nodes
}

// some calls a function up to so many times.
func (g *generator) some(most int, grow func() int) []int {
	var kids []int
	for range g.IntN(most + 1) {
		if g.left > 0 {
			kids = append(kids, grow())
		}
	}
	return kids
}

func (g *generator) qname(kind uint8) api.Node {
	n := api.Node{Kind: kind, Name: g.name()}
	if len(g.qualifiers) > 0 && g.IntN(3) == 0 {
		n.Unit = pick(g, g.qualifiers...)
	}
	return n
}

func (g *generator) exception(kind uint8) api.Node {
	if g.IntN(4) == 0 {
		return api.Node{Kind: kind, Name: "ALERTED"}
	}
	return g.qname(kind)
}

func (g *generator) branded(kind uint8) api.Node {
	if g.IntN(2) == 0 {
		return api.Node{Kind: kind, N: 1, Name: g.brand()}
	}
	return api.Node{Kind: kind}
}

func (g *generator) typ() int {
	if g.left <= 0 {
		return g.add(api.Node{Kind: api.TyPlain, Name: "INTEGER"})
	}
	switch g.IntN(8) {
	case 0, 1:
		return g.add(api.Node{Kind: api.TyPlain, Name: pick(g, "INTEGER", "BOOLEAN", "REFANY", "NULL", "ROOT", "MUTEX", "CONDITION")})
	case 2:
		return g.add(g.qname(api.TyName))
	case 3:
		return g.add(api.Node{Kind: api.TyRange}, g.expr(), g.expr())
	case 4:
		return g.add(g.branded(api.TyRef), g.typ())
	case 5:
		return g.add(g.branded(api.TyArray), g.typ())
	case 6:
		return g.add(g.branded(api.TyRecord), append([]int{g.field()}, g.some(4, g.field)...)...)
	default:
		return g.object()
	}
}

func (g *generator) object() int {
	kids := []int{g.bound(api.Node{Kind: api.TyPlain, Name: pick(g, "ROOT", "MUTEX")})}
	kids = append(kids, g.some(3, g.field)...)
	kids = append(kids, g.some(3, g.method)...)
	kids = append(kids, g.some(3, g.override)...)
	return g.add(g.branded(api.TyObject), kids...)
}

// bound adds a TyName, or another node.
func (g *generator) bound(other api.Node) int {
	if g.IntN(2) == 0 {
		return g.add(g.qname(api.TyName))
	}
	return g.add(other)
}

func (g *generator) field() int { return g.add(api.Node{Kind: api.NdField, Name: g.name()}, g.typ()) }

func (g *generator) param() int { return g.add(api.Node{Kind: api.NdParam, Name: g.name()}, g.typ()) }

func (g *generator) raise() int { return g.add(g.exception(api.NdRaise)) }

func (g *generator) method() int {
	kids := []int{g.signature()}
	if g.IntN(2) == 0 {
		kids = append(kids, g.add(g.qname(api.ExName)))
	}
	return g.add(api.Node{Kind: api.NdMethod, Name: g.name()}, kids...)
}

func (g *generator) override() int {
	return g.add(api.Node{Kind: api.NdOver, Name: g.name()}, g.add(g.qname(api.ExName)))
}

func (g *generator) signature() int {
	kids := g.some(3, g.param)
	kids = append(kids, g.some(3, g.raise)...)
	kids = append(kids, g.some(1, g.typ)...)
	return g.add(api.Node{Kind: api.NdSig}, kids...)
}

func (g *generator) expr() int {
	if g.left <= 0 {
		return g.add(api.Node{Kind: api.ExName, Name: g.name()})
	}
	switch g.IntN(16) {
	case 0:
		return g.add(api.Node{Kind: api.ExInt, N: pick(g, 0, 1, 17, 1000000000)})
	case 1:
		return g.add(pick(g, api.Node{Kind: api.ExNil}, api.Node{Kind: api.ExBool}, api.Node{Kind: api.ExBool, N: 1}))
	case 2:
		return g.call()
	case 3:
		return g.add(api.Node{Kind: pick(g, api.ExNumber, api.ExFork)}, g.expr())
	case 4:
		return g.add(api.Node{Kind: api.ExNew}, append([]int{g.typ()}, g.some(1, g.expr)...)...)
	case 5:
		return g.add(api.Node{Kind: pick(g, api.ExNarrow, api.ExLoop)}, g.expr(), g.typ())
	case 6, 7, 8:
		return g.designator()
	case 9, 10, 11:
		return g.add(api.Node{Kind: api.ExOp, Name: pick(g, "NOT", "-")}, g.expr())
	default:
		operator := pick(g, "+", "-", "*", "DIV", "MOD", "<", "<=", "=", "#", "AND", "OR")
		return g.add(api.Node{Kind: api.ExOp, Name: operator}, g.expr(), g.expr())
	}
}

func (g *generator) designator() int {
	switch g.IntN(4) {
	case 0:
		return g.add(api.Node{Kind: api.ExField, Name: g.name()}, g.expr())
	case 1:
		return g.add(api.Node{Kind: api.ExIndex}, g.expr(), g.expr())
	case 2:
		return g.add(api.Node{Kind: api.ExDeref}, g.expr())
	default:
		return g.add(g.qname(api.ExName))
	}
}

func (g *generator) call() int {
	var kids []int
	if g.IntN(2) == 0 {
		kids = append(kids, g.add(api.Node{Kind: api.ExField, Name: g.name()}, g.expr()))
	} else {
		kids = append(kids, g.add(g.qname(api.ExName)))
	}
	kids = append(kids, g.some(6, g.expr)...)
	return g.add(api.Node{Kind: api.ExCall}, kids...)
}

func (g *generator) block() int {
	return g.add(api.Node{Kind: api.StSeq}, g.some(4, g.statement)...)
}

func (g *generator) statement() int {
	switch g.IntN(14) {
	case 0:
		return g.add(api.Node{Kind: api.StVar, Name: g.name()}, g.typ(), g.expr())
	case 1, 2:
		return g.add(api.Node{Kind: api.StSet}, g.designator(), g.expr())
	case 3:
		return g.add(api.Node{Kind: api.StDo}, g.call())
	case 4:
		return g.add(api.Node{Kind: pick(g, api.StWhile, api.StLock)}, g.expr(), g.block())
	case 5:
		return g.add(api.Node{Kind: api.StReturn}, g.some(1, g.expr)...)
	case 6:
		return g.add(g.exception(api.StRaise))
	case 7:
		return g.add(api.Node{Kind: pick(g, api.StPut, api.StJoin, api.StSignal, api.StAll, api.StAlert)}, g.expr())
	case 8:
		return g.add(api.Node{Kind: api.StWait}, g.expr(), g.expr())
	case 9:
		return g.add(api.Node{Kind: api.StFinally}, g.block(), g.block())
	case 10:
		return g.trying()
	case 11:
		return g.cases()
	default:
		return g.choice()
	}
}

func (g *generator) choice() int {
	kids := []int{g.expr(), g.block()}
	switch g.IntN(3) {
	case 0:
		kids = append(kids, g.block())
	case 1:
		kids = append(kids, g.add(api.Node{Kind: api.StSeq}, g.choice()))
	}
	return g.add(api.Node{Kind: api.StIf}, kids...)
}

func (g *generator) trying() int {
	kids := []int{g.block()}
	kids = append(kids, g.some(3, func() int { return g.add(g.exception(api.NdWhen), g.block()) })...)
	if len(kids) == 1 || g.IntN(2) == 0 {
		kids = append(kids, g.add(api.Node{Kind: api.NdWhen}, g.block()))
	}
	return g.add(api.Node{Kind: api.StTry}, kids...)
}

func (g *generator) cases() int {
	kids := []int{g.expr()}
	kids = append(kids, g.some(3, func() int {
		return g.add(api.Node{Kind: api.NdArm, Var: pick(g, "", g.name())}, g.typ(), g.block())
	})...)
	if len(kids) == 1 || g.IntN(2) == 0 {
		kids = append(kids, g.add(api.Node{Kind: api.NdArm}, g.block()))
	}
	return g.add(api.Node{Kind: api.StCase}, kids...)
}

// units returns some units with trees of some size.
func (g *generator) units(most, size int) []api.Unit {
	var l []api.Unit
	for range g.IntN(most + 1) {
		l = append(l, g.unit(size))
	}
	return l
}

// unit returns a unit whose qualifiers are names of its imports, exports and formals.
func (g *generator) unit(size int) api.Unit {
	u := api.Unit{Kind: pick(g, api.UnInterface, api.UnModule), Name: pick(g, "A", "B", "Main"), Unsafe: g.IntN(4) == 0}
	u.Generic = g.IntN(4) == 0
	module := u.Kind == api.UnModule
	if u.Generic {
		u.Formals = pick(g, []string{"E"}, []string{"E", "F", "Elem", "Set"})
	}
	if module && !u.Generic {
		u.Exports = pick(g, nil, []string{"C"}, []string{"C", "A", "D"})
	}
	if !u.Generic && g.IntN(5) == 0 {
		u.Of, u.Actuals = "G", pick(g, []string{"A"}, []string{"A", "B", "A", "A"})
		return u
	}
	u.Imports = pick(g, nil, []string{"B"}, []string{"B", "A", "H", "I10"})
	g.qualifiers = append(append(append([]string(nil), u.Imports...), u.Exports...), u.Formals...)
	for range g.IntN(6) {
		u.Decls = append(u.Decls, g.decl(module, size))
	}
	if module {
		u.Body = g.tree(g.IntN(size+1), g.block)
	}
	return u
}

func (g *generator) decl(module bool, size int) api.Decl {
	d := api.Decl{Kind: pick(g, api.DcConst, api.DcType, api.DcOpaque, api.DcVar, api.DcExcept, api.DcProc, api.DcReveal), Name: g.name()}
	if module && d.Kind == api.DcOpaque {
		d.Kind = api.DcReveal
	}
	size = g.IntN(size + 1)
	switch d.Kind {
	case api.DcConst:
		d.Nodes = g.tree(size, g.expr)
	case api.DcType:
		d.Nodes = g.tree(size, g.typ)
	case api.DcOpaque:
		d.Nodes = g.tree(size, func() int {
			return g.bound(api.Node{Kind: api.TyPlain, Name: pick(g, "ROOT", "REFANY", "MUTEX")})
		})
	case api.DcVar:
		d.Nodes = g.tree(size, g.typ)
		if g.IntN(2) == 0 {
			d.Body = g.tree(size, g.expr)
		}
	case api.DcProc:
		d.Nodes = g.tree(size, g.signature)
		if module {
			d.Body = g.tree(size, g.block)
		}
	case api.DcReveal:
		d.N = g.IntN(2)
		if len(g.qualifiers) > 0 {
			d.Unit = pick(g, "", g.qualifiers[0])
		}
		d.Nodes = g.tree(size, g.typ)
	}
	return d
}
