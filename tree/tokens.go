package tree

import "trestle/api"

// tokens is a place among the tokens of a source, which moves forward.
type tokens struct {
	list []api.Token
	at   int
}

func (t *tokens) done() bool { return t.at == len(t.list) }

// next returns the token at the place; at the end this is one without a kind and a text.
func (t *tokens) next() api.Token {
	if t.done() {
		return api.Token{}
	}
	return t.list[t.at]
}

// sees reports whether a word or a sign is next. Names, numbers and texts are never written as one, so that kinds do not matter.
func (t *tokens) sees(text string) bool { return t.next().Text == text }

// seesName reports whether a name is next.
func (t *tokens) seesName() bool { return t.next().Kind == api.TokName }

// skip moves over the next token and returns its text.
func (t *tokens) skip() string {
	text := t.next().Text
	t.at++
	return text
}

// take moves over a word or a sign, if it is next.
func (t *tokens) take(text string) bool {
	if !t.sees(text) {
		return false
	}
	t.at++
	return true
}

// need moves over a word or a sign; nothing else fits.
func (t *tokens) need(text string) {
	if !t.take(text) {
		panic(t.misfit())
	}
}

// some moves over a token of a kind, and returns its text; nothing else fits.
func (t *tokens) some(kind uint8) string {
	if t.next().Kind != kind {
		panic(t.misfit())
	}
	return t.skip()
}

// name moves over a name.
func (t *tokens) name() string { return t.some(api.TokName) }

// misfit returns the fault of the next token, or, at the end, of a text that ends too early.
func (t *tokens) misfit() api.Fault {
	line := 1
	if len(t.list) > 0 {
		line = t.list[min(t.at, len(t.list)-1)].Line
	}
	return api.Fault{Err: api.ErrParse, At: line}
}
