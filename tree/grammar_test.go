package tree_test

import (
	"slices"
	"strings"

	"trestle/api"
)

// chapterGrammar is the chapter's grammar, copied: words stand for themselves, signs in quotes; @name, @number and @text are kinds of tokens. A rule with $ is meant for each name that tests use, so that names behind END are part of it. What can be set, and what is a call, has rules of its own, as it matters whether something is one.
const chapterGrammar = `
source = { unit }
unit = [ UNSAFE ] INTERFACE =$ ( instance | ';' { import } { facedecl } ) END =$ '.' | [ UNSAFE ] MODULE =$ [ EXPORTS names ] ( instance | ';' { import } { bodydecl } [ BEGIN block ] ) END =$ '.' | [ UNSAFE ] GENERIC INTERFACE =$ '(' names ')' ';' { import } { facedecl } END =$ '.' | [ UNSAFE ] GENERIC MODULE =$ '(' names ')' [ EXPORTS names ] ';' { import } { bodydecl } [ BEGIN block ] END =$ '.'
instance = '=' @name '(' names ')'
names = @name { ',' @name }
import = IMPORT names ';'
facedecl = decl | PROCEDURE @name sig ';'
bodydecl = decl | proc
proc = PROCEDURE =$ sig '=' BEGIN block END =$ ';'
decl = CONST @name '=' expr ';' | TYPE @name ( '=' | '<:' ) type ';' | VAR @name ':' type [ ':=' expr ] ';' | EXCEPTION @name ';' | REVEAL qname ( '=' | '<:' ) type ';'
qname = @name [ '.' @name ]
exc = qname | ALERTED
sig = '(' [ @name ':' type { ';' @name ':' type } ] ')' [ ':' type ] [ RAISES '{' [ exc { ',' exc } ] '}' ]
type = qname | INTEGER | BOOLEAN | REFANY | NULL | ROOT | MUTEX | CONDITION | '[' expr '..' expr ']' | brand REF cell | super brand OBJECT { field } [ METHODS { @name sig [ ':=' qname ] ';' } ] [ OVERRIDES { @name ':=' qname ';' } ] END
brand = [ BRANDED @text ]
super = qname | ROOT | MUTEX
cell = type | RECORD { field } END | ARRAY OF type
field = @name ':' type ';'
block = [ statement { ';' statement } ]
statement = VAR @name ':' type ':=' expr | designator ':=' expr | call | IF expr THEN block { ELSIF expr THEN block } [ ELSE block ] END | WHILE expr DO block END | RETURN [ expr ] | RAISE exc | TRY block EXCEPT { '|' exc '=>' block } [ ELSE block ] END | TRY block FINALLY block END | LOCK expr DO block END | TYPECASE expr OF { '|' type [ '(' @name ')' ] '=>' block } [ ELSE block ] END | ( PUT | JOIN | SIGNAL | ALL | ALERT ) expr | WAIT expr ',' expr
expr = and { OR and }
and = not { AND not }
not = NOT not | rel
rel = sum { ( '<' | '<=' | '=' | '#' ) sum }
sum = product { ( '+' | '-' ) product }
product = unary { ( '*' | DIV | MOD ) unary }
unary = '-' unary | postfix
postfix = designator | call | primary
callable = @name | postfix '.' @name
designator = callable | postfix '[' expr ']' | postfix '^' | '(' designator ')'
call = callable '(' [ expr { ',' expr } ] ')' | '(' call ')'
primary = @number | NIL | TRUE | FALSE | '(' expr ')' | NEW '(' type [ ',' expr ] ')' | NARROW '(' expr ',' type ')' | NUMBER '(' expr ')' | LOOPHOLE '(' expr ',' type ')' | FORK '(' expr ')'
`

// grammarNames are the names that tokens of tests of the grammar may have.
var grammarNames = []string{"A", "B", "x", "p"}

// production is one of the forms of a symbol of a grammar.
type production struct {
	left  string
	right []string
}

// grammar is the productions of each symbol; other symbols are tokens.
type grammar struct {
	forms map[string][]production
	empty map[string]bool
}

func newGrammar() *grammar {
	g := &grammar{map[string][]production{}, map[string]bool{}}
	for _, line := range strings.Split(strings.TrimSpace(chapterGrammar), "\n") {
		left, right, _ := strings.Cut(line, " = ")
		variants := []string{right}
		if strings.Contains(right, "$") {
			variants = nil
			for _, name := range grammarNames {
				variants = append(variants, strings.ReplaceAll(right, "$", name))
			}
		}
		for _, v := range variants {
			words := strings.Fields(v)
			g.alternatives(left, &words)
		}
	}
	for changed := true; changed; {
		changed = false
		for left, forms := range g.forms {
			for _, form := range forms {
				if !g.empty[left] && !slices.ContainsFunc(form.right, func(s string) bool { return !g.empty[s] }) {
					g.empty[left] = true
					changed = true
				}
			}
		}
	}
	return g
}

// alternatives adds forms of a symbol, up to a closing bracket or the end.
func (g *grammar) alternatives(left string, words *[]string) {
	var right []string
	for len(*words) > 0 {
		word := (*words)[0]
		*words = (*words)[1:]
		switch word {
		case "|":
			g.form(left, right)
			right = nil
		case ")", "]", "}":
			g.form(left, right)
			return
		case "(", "[", "{":
			inner := "#" + left + string(rune('0'+len(g.forms)))
			g.forms[inner] = nil
			g.alternatives(inner, words)
			if word == "[" {
				g.form(inner, nil)
			}
			if word == "{" {
				g.form(inner+"*", []string{inner + "*", inner})
				g.form(inner+"*", nil)
				inner += "*"
			}
			right = append(right, inner)
		default:
			right = append(right, word)
		}
	}
	g.form(left, right)
}

func (g *grammar) form(left string, right []string) {
	g.forms[left] = append(g.forms[left], production{left, right})
}

// item is a form of which some symbols were found, from a place on.
type item struct {
	form     *production
	dot, who int
}

// recognizer finds out whether something that the grammar makes begins with the tokens that it was given.
type recognizer struct {
	*grammar
	sets [][]item
}

func (g *grammar) recognizer() *recognizer {
	r := &recognizer{grammar: g}
	var start []item
	for i := range g.forms["source"] {
		start = append(start, item{&g.forms["source"][i], 0, 0})
	}
	r.sets = [][]item{r.closed(0, start)}
	return r
}

// next returns what an item waits for.
func (it item) next() string {
	if it.dot == len(it.form.right) {
		return ""
	}
	return it.form.right[it.dot]
}

// closed adds to the items of a place all that follow from them.
func (r *recognizer) closed(at int, set []item) []item {
	seen := map[item]bool{}
	for _, it := range set {
		seen[it] = true
	}
	add := func(it item) {
		if !seen[it] {
			seen[it] = true
			set = append(set, it)
		}
	}
	for i := 0; i < len(set); i++ {
		it := set[i]
		next := it.next()
		if next == "" {
			around := set
			if it.who < at {
				around = r.sets[it.who]
			}
			for _, waiting := range around {
				if waiting.next() == it.form.left {
					add(item{waiting.form, waiting.dot + 1, waiting.who})
				}
			}
			continue
		}
		for k := range r.forms[next] {
			add(item{&r.forms[next][k], 0, at})
		}
		// What is empty is found at once: its forms may have been closed before this item came.
		if r.empty[next] {
			add(item{it.form, it.dot + 1, it.who})
		}
	}
	return set
}

// feed takes a token, if something begins with all up to it.
func (r *recognizer) feed(tok api.Token) bool {
	var set []item
	for _, it := range r.sets[len(r.sets)-1] {
		if next := it.next(); next != "" && r.forms[next] == nil && isToken(next, tok) {
			set = append(set, item{it.form, it.dot + 1, it.who})
		}
	}
	if len(set) == 0 {
		return false
	}
	r.sets = append(r.sets, nil)
	at := len(r.sets) - 1
	r.sets[at] = r.closed(at, set)
	return true
}

// complete reports whether the tokens are all of a source.
func (r *recognizer) complete() bool {
	return slices.ContainsFunc(r.sets[len(r.sets)-1], func(it item) bool { return it.form.left == "source" && it.next() == "" && it.who == 0 })
}

// expected returns the tokens that fit, as the grammar has them, in some order that is always the same.
func (r *recognizer) expected() []string {
	var l []string
	for _, it := range r.sets[len(r.sets)-1] {
		if next := it.next(); next != "" && r.forms[next] == nil {
			l = append(l, next)
		}
	}
	slices.Sort(l)
	return slices.Compact(l)
}

// isToken reports whether a token is what the grammar has in its place.
func isToken(symbol string, tok api.Token) bool {
	switch symbol {
	case "@name":
		return tok.Kind == api.TokName
	case "@number":
		return tok.Kind == api.TokNumber
	case "@text":
		return tok.Kind == api.TokText
	}
	return plainToken(symbol) == tok.Text
}

// plainToken returns the text of a word, a sign or a certain name of the grammar.
func plainToken(symbol string) string {
	if len(symbol) > 1 && symbol[0] == '=' {
		return symbol[1:]
	}
	return strings.Trim(symbol, "'")
}
