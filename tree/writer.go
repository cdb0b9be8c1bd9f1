package tree

import (
	"strings"

	"trestle/scan"
)

// writer puts words and signs into lines, with the blanks of canonical text between them.
type writer struct {
	text  strings.Builder
	depth int
	begun bool
	last  string
}

// put writes words and signs.
func (w *writer) put(words ...string) {
	for _, word := range words {
		if !w.begun {
			w.text.WriteString(strings.Repeat("  ", w.depth))
			w.begun = true
		} else if isApart(w.last, word) {
			w.text.WriteString(" ")
		}
		w.text.WriteString(word)
		w.last = word
	}
}

// minus writes the sign of one operand, behind which there is no blank.
func (w *writer) minus() {
	w.put("-")
	w.last = ""
}

// putApart writes a sign with a blank ahead of it.
func (w *writer) putApart(sign string) {
	w.text.WriteString(" " + sign)
	w.last = sign
}

// end ends the line.
func (w *writer) end() {
	w.text.WriteString("\n")
	w.begun = false
}

// separate writes items by a function, with a sign between them.
func separate[T any](w *writer, sign string, items []T, write func(T)) {
	for i, item := range items {
		if i > 0 {
			w.put(sign)
		}
		write(item)
	}
}

// isApart reports whether a blank stands between two words or signs. An empty one stands for the sign of one operand.
func isApart(last, next string) bool {
	switch next {
	case ",", ";", ":", ")", "]", "}", ".", "^", "..":
		return false
	case "(", "[":
		if isTight(last) {
			return false
		}
	}
	switch last {
	case "", "(", "[", "{", ".", "..":
		return false
	}
	return true
}

// isTight reports whether a bracket stands directly behind a word or sign.
func isTight(last string) bool {
	switch last {
	case "NEW", "NARROW", "NUMBER", "LOOPHOLE", "FORK", ")", "]", "^":
		return true
	}
	return scan.IsName(last)
}
