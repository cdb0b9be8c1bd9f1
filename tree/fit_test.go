package tree_test

import (
	"strings"
	"testing"

	"trestle/api"
	"trestle/scan"
	"trestle/tree"
)

// misfit returns the number, from 1 on, of the first token that does not fit by the grammar, that of the last one for what ends too early, and 0 for what is made by the grammar. Some of the first tokens the recognizer knows to fit, and it knows these alone again at last.
func (r *recognizer) misfit(tokens []api.Token) int {
	known := len(r.sets)
	defer func() { r.sets = r.sets[:known] }()
	for i, tok := range tokens[known-1:] {
		if !r.feed(tok) {
			return known + i
		}
	}
	if r.complete() {
		return 0
	}
	return max(len(tokens), 1)
}

// compareFit compares where Parse gives up with where the grammar does. Each token has a line of its own.
func compareFit(t *testing.T, r *recognizer, words []string) {
	t.Helper()
	src := strings.Join(words, "\n")
	tokens, sf := scan.Scan(src)
	if sf != (api.Fault{}) || len(tokens) != len(words) {
		t.Fatalf("no tokens of a test: %q: %+v", words, sf)
	}
	_, f := tree.Parse(src)
	line := 0
	if f.Err == api.ErrParse {
		line = f.At
	}
	if want := r.misfit(tokens); line != want {
		t.Fatalf("%q: gives up at %d (%+v), the grammar at %d", strings.Join(words, " "), line, f, want)
	}
}

// anyWords are tokens that may stand in the place of others.
func anyWords() []string {
	l := append(scan.Words(), scan.Signs()...)
	for range 4 {
		l = append(l, grammarNames...)
		l = append(l, "1", "16_F", `"b"`, ".", ";", "(", ")", ":=")
	}
	return l
}

// namesOf exchanges names for such as tests of the grammar know.
func (g *generator) namesOf(words []string) []string {
	to := map[string]string{}
	for i, word := range words {
		if scan.IsName(word) {
			if to[word] == "" {
				to[word] = pick(g, grammarNames...)
			}
			words[i] = to[word]
		}
	}
	return words
}

// further puts words behind others, the last two of which fit nowhere (but one behind BRANDED), so that what ends with the one ahead of them is told from what does not fit there.
func further(words []string, more ...string) []string {
	l := append([]string(nil), words...)
	return append(append(l, more...), `"b"`, `"b"`)
}

// Errors: where texts that were changed by some tokens do not fit.
func TestFitOfChangedTexts(t *testing.T) {
	g, grammar := newGenerator(11), newGrammar()
	others := anyWords()
	for done := 0; done < 1000; {
		w := &loose{generator: g}
		for _, u := range g.units(3, 15) {
			w.unit(u)
		}
		words := g.namesOf(w.words)
		if len(words) > 200 {
			continue
		}
		r := grammar.recognizer()
		compareFit(t, r, words)
		for range g.IntN(3) {
			words = changed(g, words, others)
		}
		compareFit(t, r, words)
		compareFit(t, r, words[:g.IntN(len(words)+1)])
		done++
	}
}

// changed takes a word away, or puts another one in its place, or ahead of it.
func changed(g *generator, words, others []string) []string {
	at := g.IntN(len(words) + 1)
	l := append([]string(nil), words[:at]...)
	if kind := g.IntN(3); kind > 0 {
		l = append(l, pick(g, others...))
		if kind == 1 {
			return append(l, words[at:]...)
		}
	}
	return append(l, words[min(at+1, len(words)):]...)
}

// Errors: where texts do not fit that are made of tokens each of which fits, and a last one.
func TestFitOfAnyTexts(t *testing.T) {
	g, grammar := newGenerator(12), newGrammar()
	others := anyWords()
	for range 1000 {
		r := grammar.recognizer()
		var words []string
		for range g.IntN(60) {
			word := instance(g, pick(g, r.expected()...))
			words = append(words, word)
			tokens, _ := scan.Scan(word)
			if !r.feed(tokens[0]) {
				t.Fatalf("a test makes what does not fit: %q", words)
			}
		}
		compareFit(t, r, words)
		compareFit(t, r, further(words, pick(g, others...)))
	}
}

// instance returns a token that is what the grammar has in its place.
func instance(g *generator, symbol string) string {
	switch symbol {
	case "@name":
		return pick(g, grammarNames...)
	case "@number":
		return pick(g, "0", "7", "2_101")
	case "@text":
		return `"b"`
	}
	return plainToken(symbol)
}

// Errors: each word and sign, in each place of a text, alone.
func TestFitOfEachWord(t *testing.T) {
	grammar := newGrammar()
	words := strings.Fields("MODULE A EXPORTS B ; IMPORT B , x ; REVEAL B . A <: REF ARRAY OF [ 1 .. x ( ) . p [ 1 ] ^ ] ; PROCEDURE p ( x : A . B OBJECT x : NULL ; METHODS p ( ) RAISES { } ; OVERRIDES p := B . p ; END ; p : ROOT ) = BEGIN TYPECASE x OF | A ( x ) => RETURN ELSE END END p ; BEGIN IF ( x ) THEN x ( 1 ) ELSIF - p THEN TRY EXCEPT | x => ( p ) := NOT A ELSE END END END A .")
	others := append(scan.Words(), scan.Signs()...)
	others = append(others, "A", "B", "x", "p", "1", `"b"`)
	r := grammar.recognizer()
	for at, word := range words {
		compareFit(t, r, words[:at])
		for _, other := range others {
			compareFit(t, r, further(words[:at], other))
		}
		tokens, _ := scan.Scan(word)
		if !r.feed(tokens[0]) {
			t.Fatalf("a test has a text that does not fit: %q", words[:at+1])
		}
	}
	compareFit(t, r, words)
}
