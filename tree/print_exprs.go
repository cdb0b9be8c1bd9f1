package tree

import (
	"strconv"

	"trestle/api"
)

func (p *printer) expr(at int) {
	n := p.nodes[at]
	switch n.Kind {
	case api.ExInt:
		p.put(strconv.Itoa(n.N))
	case api.ExNil:
		p.put("NIL")
	case api.ExBool:
		p.put(truthWord(n.N))
	case api.ExName:
		p.qname(n.Unit, n.Name)
	case api.ExField:
		p.operand(n.Kids[0], rulePostfix)
		p.put(".", n.Name)
	case api.ExIndex:
		p.operand(n.Kids[0], rulePostfix)
		p.put("[")
		p.expr(n.Kids[1])
		p.put("]")
	case api.ExDeref:
		p.operand(n.Kids[0], rulePostfix)
		p.put("^")
	case api.ExCall:
		p.expr(n.Kids[0])
		p.put("(")
		separate(&p.writer, ",", n.Kids[1:], p.expr)
		p.put(")")
	case api.ExOp:
		p.operation(n)
	default:
		p.wordExpr(n)
	}
}

func truthWord(n int) string {
	if n == 1 {
		return "TRUE"
	}
	return "FALSE"
}

// wordExpr writes a word, and expressions or types in parentheses behind it.
func (p *printer) wordExpr(n api.Node) {
	switch n.Kind {
	case api.ExNew:
		p.put("NEW")
	case api.ExNarrow:
		p.put("NARROW")
	case api.ExLoop:
		p.put("LOOPHOLE")
	case api.ExNumber:
		p.put("NUMBER")
	case api.ExFork:
		p.put("FORK")
	}
	p.put("(")
	separate(&p.writer, ",", n.Kids, p.typeOrExpr)
	p.put(")")
}

func (p *printer) typeOrExpr(at int) {
	if isType(p.nodes[at]) {
		p.typ(at)
	} else {
		p.expr(at)
	}
}

// The rules of the grammar of expressions, from the one that binds least on.
const (
	ruleOr = 1 + iota
	ruleAnd
	ruleNot
	ruleRelation
	ruleSum
	ruleProduct
	ruleUnary
	rulePostfix
)

// ruleOf returns the rule that makes a node.
func ruleOf(n api.Node) int {
	if n.Kind != api.ExOp {
		return rulePostfix
	}
	switch n.Name {
	case "OR":
		return ruleOr
	case "AND":
		return ruleAnd
	case "NOT":
		return ruleNot
	case "+":
		return ruleSum
	case "*", "DIV", "MOD":
		return ruleProduct
	case "-":
		if len(n.Kids) == 1 {
			return ruleUnary
		}
		return ruleSum
	}
	return ruleRelation
}

func (p *printer) operation(n api.Node) {
	rule := ruleOf(n)
	switch {
	case rule == ruleUnary:
		p.minus()
		p.operand(n.Kids[0], rule)
	case rule == ruleNot:
		p.put("NOT")
		p.operand(n.Kids[0], rule)
	default:
		p.operand(n.Kids[0], rule)
		p.put(n.Name)
		// Operators of one rule are read from left to right.
		p.operand(n.Kids[1], rule+1)
	}
}

// operand writes an expression, in parentheses if its rule is below the least one.
func (p *printer) operand(at, least int) {
	if ruleOf(p.nodes[at]) >= least {
		p.expr(at)
		return
	}
	p.put("(")
	p.expr(at)
	p.put(")")
}
