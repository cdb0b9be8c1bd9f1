package tree_test

import (
	"slices"
	"strconv"
	"strings"

	"trestle/api"
	"trestle/scan"
)

// loose writes units as the grammar allows it, and not as canonical text has it: with further parentheses, with any layout between tokens, and with all that may be left out, or said in two ways, one way or the other by chance.
type loose struct {
	*generator
	nodes []api.Node
	words []string
}

func looseText(g *generator, l []api.Unit) string {
	w := &loose{generator: g}
	for _, u := range l {
		w.unit(u)
	}
	return w.text()
}

// text puts blanks, comments and pragmas between the words; only words of letters and digits need something between them.
func (w *loose) text() string {
	layout := []string{" ", "\n", "\t", "  \n ", "(**)", " (* (* y *)\n; *) ", "<* END *>"}
	var b strings.Builder
	for i, word := range w.words {
		if w.IntN(4) > 0 || i > 0 && runTogether(w.words[i-1], word) {
			b.WriteString(pick(w.generator, layout...))
		}
		b.WriteString(word)
	}
	b.WriteString(pick(w.generator, "", "\n", "(* end *)"))
	return b.String()
}

// together keeps what runTogether found.
var together = map[[2]string]bool{}

// runTogether reports whether two words would be other tokens without anything between them.
func runTogether(a, b string) bool {
	run, known := together[[2]string{a, b}]
	if !known {
		l, f := scan.Scan(a + b)
		run = f.Err != api.OK || len(l) != 2 || l[0].Text != a || l[1].Text != b
		together[[2]string{a, b}] = run
	}
	return run
}

func (w *loose) put(words ...string) { w.words = append(w.words, words...) }

func (w *loose) chance() bool { return w.IntN(2) == 0 }

// between writes items with a sign between them.
func (w *loose) between(sign string, kids []int, write func(int)) {
	for i, kid := range kids {
		if i > 0 {
			w.put(sign)
		}
		write(kid)
	}
}

func (w *loose) list(names []string) {
	w.put(strings.Split(strings.Join(names, "\x00,\x00"), "\x00")...)
}

func (w *loose) unit(u api.Unit) {
	if u.Unsafe {
		w.put("UNSAFE")
	}
	if u.Generic {
		w.put("GENERIC")
	}
	w.put([]string{"", "INTERFACE", "MODULE"}[u.Kind], u.Name)
	if u.Generic {
		w.put("(")
		w.list(u.Formals)
		w.put(")")
	}
	if len(u.Exports) > 0 {
		w.put("EXPORTS")
		w.list(u.Exports)
	}
	if u.Of != "" {
		w.put("=", u.Of, "(")
		w.list(u.Actuals)
		w.put(")", "END", u.Name, ".")
		return
	}
	w.put(";")
	for rest := u.Imports; len(rest) > 0; {
		n := 1 + w.IntN(len(rest))
		w.put("IMPORT")
		w.list(rest[:n])
		w.put(";")
		rest = rest[n:]
	}
	for _, d := range u.Decls {
		w.decl(u, d)
		w.put(";")
	}
	if len(u.Body) > 1 || len(u.Body) == 1 && w.chance() {
		w.put("BEGIN")
		w.root(u.Body, w.block)
	}
	w.put("END", u.Name, ".")
}

func (w *loose) root(l []api.Node, write func(int)) {
	w.nodes = l
	write(len(l) - 1)
}

func (w *loose) decl(u api.Unit, d api.Decl) {
	w.put([]string{"", "CONST", "TYPE", "TYPE", "VAR", "EXCEPTION", "PROCEDURE", "REVEAL"}[d.Kind])
	if d.Unit != "" {
		w.put(d.Unit, ".")
	}
	w.put(d.Name)
	switch d.Kind {
	case api.DcConst:
		w.put("=")
		w.root(d.Nodes, w.expr)
	case api.DcVar:
		w.put(":")
		w.root(d.Nodes, w.typ)
		if len(d.Body) > 0 {
			w.put(":=")
			w.root(d.Body, w.expr)
		}
	case api.DcProc:
		w.root(d.Nodes, w.signature)
		if u.Kind == api.UnModule {
			w.put("=", "BEGIN")
			w.root(d.Body, w.block)
			w.put("END", d.Name)
		}
	case api.DcType, api.DcOpaque, api.DcReveal:
		sign := "<:"
		if d.Kind == api.DcType || d.N == 1 {
			sign = "="
		}
		w.put(sign)
		w.root(d.Nodes, w.typ)
	}
}

func (w *loose) qname(n api.Node) {
	if n.Unit != "" {
		w.put(n.Unit, ".")
	}
	w.put(n.Name)
}

func (w *loose) typ(at int) {
	n := w.nodes[at]
	if n.Kind == api.TyObject {
		w.typ(n.Kids[0])
	}
	if n.N == 1 {
		w.put("BRANDED", `"`+n.Name+`"`)
	}
	switch n.Kind {
	case api.TyName, api.TyPlain:
		w.qname(n)
	case api.TyRange:
		w.put("[")
		w.between("..", n.Kids, w.expr)
		w.put("]")
	case api.TyRef:
		w.put("REF")
		w.typ(n.Kids[0])
	case api.TyArray:
		w.put("REF", "ARRAY", "OF")
		w.typ(n.Kids[0])
	case api.TyRecord:
		w.put("REF", "RECORD")
		w.members(n.Kids)
		w.put("END")
	case api.TyObject:
		w.put("OBJECT")
		w.object(n.Kids[1:])
		w.put("END")
	}
}

func (w *loose) object(kids []int) {
	of := func(kind uint8) (l []int) {
		for _, kid := range kids {
			if w.nodes[kid].Kind == kind {
				l = append(l, kid)
			}
		}
		return l
	}
	w.members(of(api.NdField))
	if methods := of(api.NdMethod); len(methods) > 0 || w.chance() {
		w.put("METHODS")
		w.members(methods)
	}
	if overrides := of(api.NdOver); len(overrides) > 0 || w.chance() {
		w.put("OVERRIDES")
		w.members(overrides)
	}
}

func (w *loose) members(kids []int) {
	for _, kid := range kids {
		w.member(kid)
		w.put(";")
	}
}

func (w *loose) member(at int) {
	n := w.nodes[at]
	w.put(n.Name)
	switch n.Kind {
	case api.NdField, api.NdParam:
		w.put(":")
		w.typ(n.Kids[0])
	case api.NdMethod:
		w.signature(n.Kids[0])
		if len(n.Kids) == 2 {
			w.put(":=")
			w.qname(w.nodes[n.Kids[1]])
		}
	case api.NdOver:
		w.put(":=")
		w.qname(w.nodes[n.Kids[0]])
	}
}

func (w *loose) signature(at int) {
	var params, raises, result []int
	for _, kid := range w.nodes[at].Kids {
		switch w.nodes[kid].Kind {
		case api.NdParam:
			params = append(params, kid)
		case api.NdRaise:
			raises = append(raises, kid)
		default:
			result = append(result, kid)
		}
	}
	w.put("(")
	w.between(";", params, w.member)
	w.put(")")
	for _, kid := range result {
		w.put(":")
		w.typ(kid)
	}
	if len(raises) > 0 || w.IntN(4) == 0 {
		w.put("RAISES", "{")
		w.between(",", raises, func(kid int) { w.qname(w.nodes[kid]) })
		w.put("}")
	}
}

// inParentheses writes something in parentheses, if it needs them or by chance in some more.
func (w *loose) inParentheses(needed bool, write func()) {
	n := max(w.IntN(7)-4, 0)
	if needed {
		n++
	}
	for range n {
		w.put("(")
	}
	write()
	for range n {
		w.put(")")
	}
}

func (w *loose) expr(at int) { w.inParentheses(false, func() { w.bare(at) }) }

// operand writes all that is no primary in parentheses.
func (w *loose) operand(at int) {
	kind := w.nodes[at].Kind
	w.inParentheses(kind == api.ExOp, func() { w.bare(at) })
}

// number writes a number with some base.
func (w *loose) number(n int) {
	s, e := scan.Digits(n, 2+w.IntN(15))
	if e != api.OK {
		s = strconv.Itoa(n)
	}
	w.put(s)
}

// bare writes an expression without parentheses around it.
func (w *loose) bare(at int) {
	n := w.nodes[at]
	switch n.Kind {
	case api.ExInt:
		w.number(n.N)
	case api.ExNil:
		w.put("NIL")
	case api.ExBool:
		w.put([]string{"FALSE", "TRUE"}[n.N])
	case api.ExName:
		w.qname(n)
	case api.ExField:
		w.operand(n.Kids[0])
		w.put(".", n.Name)
	case api.ExIndex:
		w.operand(n.Kids[0])
		w.put("[")
		w.expr(n.Kids[1])
		w.put("]")
	case api.ExDeref:
		w.operand(n.Kids[0])
		w.put("^")
	case api.ExCall:
		w.bare(n.Kids[0])
		w.put("(")
		w.between(",", n.Kids[1:], w.expr)
		w.put(")")
	case api.ExOp:
		w.operation(n)
	default:
		w.put(map[uint8]string{api.ExNew: "NEW", api.ExNarrow: "NARROW", api.ExLoop: "LOOPHOLE", api.ExNumber: "NUMBER", api.ExFork: "FORK"}[n.Kind], "(")
		w.between(",", n.Kids, func(kid int) {
			if w.nodes[kid].Kind <= api.TyObject {
				w.typ(kid)
			} else {
				w.expr(kid)
			}
		})
		w.put(")")
	}
}

func (w *loose) operation(n api.Node) {
	for i, kid := range n.Kids {
		if len(n.Kids) == 1 || i == 1 {
			w.put(n.Name)
		}
		w.operand(kid)
	}
}

func (w *loose) block(at int) {
	w.between(";", w.nodes[at].Kids, w.statement)
}

func (w *loose) statement(at int) {
	n := w.nodes[at]
	switch n.Kind {
	case api.StVar:
		w.put("VAR", n.Name, ":")
		w.typ(n.Kids[0])
		w.put(":=")
		w.expr(n.Kids[1])
	case api.StSet:
		w.expr(n.Kids[0])
		w.put(":=")
		w.expr(n.Kids[1])
	case api.StDo:
		w.expr(n.Kids[0])
	case api.StIf:
		w.put("IF")
		w.branch(n)
		w.put("END")
	case api.StWhile, api.StLock:
		w.put(map[uint8]string{api.StWhile: "WHILE", api.StLock: "LOCK"}[n.Kind])
		w.expr(n.Kids[0])
		w.put("DO")
		w.block(n.Kids[1])
		w.put("END")
	case api.StRaise:
		w.put("RAISE")
		w.qname(n)
	case api.StTry, api.StFinally:
		w.put("TRY")
		w.block(n.Kids[0])
		if n.Kind == api.StFinally {
			w.put("FINALLY")
			w.block(n.Kids[1])
		} else {
			w.put("EXCEPT")
			w.alternatives(n.Kids[1:])
		}
		w.put("END")
	case api.StCase:
		w.put("TYPECASE")
		w.expr(n.Kids[0])
		w.put("OF")
		w.alternatives(n.Kids[1:])
		w.put("END")
	default:
		w.put(map[uint8]string{api.StReturn: "RETURN", api.StPut: "PUT", api.StJoin: "JOIN", api.StSignal: "SIGNAL", api.StAll: "ALL", api.StAlert: "ALERT", api.StWait: "WAIT"}[n.Kind])
		w.between(",", n.Kids, w.expr)
	}
}

func (w *loose) branch(n api.Node) {
	w.expr(n.Kids[0])
	w.put("THEN")
	w.block(n.Kids[1])
	if len(n.Kids) == 2 {
		return
	}
	others := w.nodes[n.Kids[2]].Kids
	if len(others) == 1 && w.nodes[others[0]].Kind == api.StIf && w.chance() {
		w.put("ELSIF")
		w.branch(w.nodes[others[0]])
		return
	}
	w.put("ELSE")
	w.block(n.Kids[2])
}

func (w *loose) alternatives(kids []int) {
	for _, kid := range kids {
		n := w.nodes[kid]
		switch {
		case n.Kind == api.NdWhen && n.Name != "":
			w.put("|")
			w.qname(n)
			w.put("=>")
		case n.Kind == api.NdArm && len(n.Kids) == 2:
			w.put("|")
			w.typ(n.Kids[0])
			if n.Var != "" {
				w.put("(", n.Var, ")")
			}
			w.put("=>")
		default:
			w.put("ELSE")
		}
		w.block(slices.Max(n.Kids))
	}
}
