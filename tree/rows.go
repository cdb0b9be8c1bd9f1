package tree

import (
	"strings"

	"trestle/api"
	"trestle/scan"
)

// alerted is the one name of an exception that is a reserved word.
const alerted = "ALERTED"

// fields are those of a node that are no kids.
type fields struct {
	Name, Unit, Var string
	N, Type         int
}

// row says which fields and kids nodes of a kind have. A kind whose nodes have one of two forms has a row for each.
type row struct {
	kind   uint8
	fields func(fields) bool
	kids   func([]api.Node) bool
}

// rows returns the table of the nodes of well-formed trees.
func rows() [51]row {
	expr, typ, block := one(isExpr), one(isType), one(is(api.StSeq))
	leaf, exprAlone, typeAlone, blockAlone := kids(), kids(expr), kids(typ), kids(block)
	return [...]row{
		{api.TyName, qualified, leaf},
		{api.TyPlain, wordOf("INTEGER BOOLEAN REFANY NULL ROOT MUTEX CONDITION"), leaf},
		{api.TyRange, plain, kids(expr, expr)},
		{api.TyRef, branded, typeAlone},
		{api.TyArray, branded, typeAlone},
		{api.TyRecord, branded, kids(most(api.MaxFields, is(api.NdField)).atLeastOne())},
		{api.TyObject, branded, kids(one(isSuper), most(api.MaxFields, is(api.NdField)), most(api.MaxFields, is(api.NdMethod)), most(api.MaxFields, is(api.NdOver)))},
		{api.NdField, named, typeAlone},
		{api.NdParam, named, typeAlone},
		{api.NdMethod, named, kids(one(is(api.NdSig)), most(1, is(api.ExName)))},
		{api.NdOver, named, kids(one(is(api.ExName)))},
		{api.NdSig, plain, kids(most(api.MaxArgs, is(api.NdParam)), most(api.MaxRaises, is(api.NdRaise)), most(1, isType))},
		{api.NdRaise, exception, leaf},
		{api.ExInt, upTo(api.MaxInt), leaf},
		{api.ExNil, plain, leaf},
		{api.ExBool, upTo(1), leaf},
		{api.ExName, qualified, leaf},
		{api.ExField, named, exprAlone},
		{api.ExIndex, plain, kids(expr, expr)},
		{api.ExDeref, plain, exprAlone},
		{api.ExNumber, plain, exprAlone},
		{api.ExFork, plain, exprAlone},
		{api.ExCall, plain, kids(one(is(api.ExName, api.ExField)), most(api.MaxArgs, isExpr))},
		{api.ExNew, plain, kids(typ, most(1, isExpr))},
		{api.ExOp, wordOf("NOT -"), exprAlone},
		{api.ExOp, wordOf("+ - * DIV MOD < <= = # AND OR"), kids(expr, expr)},
		{api.ExNarrow, plain, kids(expr, typ)},
		{api.ExLoop, plain, kids(expr, typ)},
		{api.StSeq, plain, kids(most(api.MaxNodes, isStatement))},
		{api.StVar, named, kids(typ, expr)},
		{api.StSet, plain, kids(one(isDesignator), expr)},
		{api.StDo, plain, kids(one(is(api.ExCall)))},
		{api.StIf, plain, kids(expr, block, most(1, is(api.StSeq)))},
		{api.StWhile, plain, kids(expr, block)},
		{api.StLock, plain, kids(expr, block)},
		{api.StReturn, plain, kids(most(1, isExpr))},
		{api.StRaise, exception, leaf},
		{api.StTry, plain, kids(block, most(api.MaxNodes, isHandler).atLeastOne(), most(1, isOthers))},
		{api.StTry, plain, kids(block, one(isOthers))},
		{api.NdWhen, func(f fields) bool { return plain(f) || exception(f) }, blockAlone},
		{api.StFinally, plain, kids(block, block)},
		{api.StCase, plain, kids(expr, most(api.MaxNodes, isArm).atLeastOne(), most(1, isOtherArm))},
		{api.StCase, plain, kids(expr, one(isOtherArm))},
		{api.NdArm, func(f fields) bool { return plain(f) || f == fields{Var: f.Var} && scan.IsName(f.Var) }, kids(typ, block)},
		{api.NdArm, plain, blockAlone},
		{api.StPut, plain, exprAlone},
		{api.StJoin, plain, exprAlone},
		{api.StSignal, plain, exprAlone},
		{api.StAll, plain, exprAlone},
		{api.StAlert, plain, exprAlone},
		{api.StWait, plain, kids(expr, expr)},
	}
}

// Each of the following checks that a node has its fields, and no others.

func plain(f fields) bool { return f == fields{} }

func named(f fields) bool { return f == fields{Name: f.Name} && scan.IsName(f.Name) }

func qualified(f fields) bool {
	return f == fields{Unit: f.Unit, Name: f.Name} && isQname(f.Unit, f.Name)
}

func exception(f fields) bool { return f == fields{Name: alerted} || qualified(f) }

func branded(f fields) bool {
	return plain(f) || f == fields{N: 1, Name: f.Name} && scan.IsBrand(f.Name)
}

func upTo(greatest int) func(fields) bool {
	return func(f fields) bool { return f == fields{N: f.N} && 0 <= f.N && f.N <= greatest }
}

func wordOf(words string) func(fields) bool {
	return func(f fields) bool {
		for _, word := range strings.Fields(words) {
			if f == (fields{Name: word}) {
				return true
			}
		}
		return false
	}
}

// isQname reports whether a name, and a qualifier that may be empty, are names.
func isQname(unit, name string) bool {
	return scan.IsName(name) && (unit == "" || scan.IsName(unit))
}

// part is some kids that stand one behind the other, each of which has a property.
type part struct {
	least, most int
	has         func(api.Node) bool
}

func one(has func(api.Node) bool) part { return part{1, 1, has} }

func most(n int, has func(api.Node) bool) part { return part{0, n, has} }

func (p part) atLeastOne() part {
	p.least = 1
	return p
}

// kids checks that kids are parts, in their order. As a kid that a part can have never belongs to the next one instead, each part takes what it can.
func kids(parts ...part) func([]api.Node) bool {
	return func(rest []api.Node) bool {
		for _, p := range parts {
			n := 0
			for n < min(p.most, len(rest)) && p.has(rest[n]) {
				n++
			}
			if n < p.least {
				return false
			}
			rest = rest[n:]
		}
		return len(rest) == 0
	}
}

// is tells nodes of some kinds.
func is(kinds ...uint8) func(api.Node) bool {
	return func(n api.Node) bool {
		for _, kind := range kinds {
			if n.Kind == kind {
				return true
			}
		}
		return false
	}
}

func isType(n api.Node) bool { return api.TyName <= n.Kind && n.Kind <= api.TyObject }

func isExpr(n api.Node) bool { return api.ExInt <= n.Kind && n.Kind <= api.ExFork }

func isStatement(n api.Node) bool {
	return api.StVar <= n.Kind && n.Kind <= api.StAlert && n.Kind != api.NdWhen && n.Kind != api.NdArm
}

// isDesignator tells what can be set.
func isDesignator(n api.Node) bool {
	switch n.Kind {
	case api.ExName, api.ExField, api.ExIndex, api.ExDeref:
		return true
	}
	return false
}

// isSuper tells a super type of an object type.
func isSuper(n api.Node) bool {
	return n.Kind == api.TyName || n.Kind == api.TyPlain && (n.Name == "ROOT" || n.Name == "MUTEX")
}

// isHandler tells a handler of an exception from one of all others.
func isHandler(n api.Node) bool { return n.Kind == api.NdWhen && n.Name != "" }

func isOthers(n api.Node) bool { return n.Kind == api.NdWhen && n.Name == "" }

// isArm tells an arm with a type from one for all others.
func isArm(n api.Node) bool { return n.Kind == api.NdArm && len(n.Kids) == 2 }

func isOtherArm(n api.Node) bool { return n.Kind == api.NdArm && len(n.Kids) != 2 }
