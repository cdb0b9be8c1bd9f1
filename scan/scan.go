// Package scan is layer 1: it divides sources into pieces without gaps, and says where pieces stand and which of them an edit leaves.
package scan

import (
	"strings"

	"trestle/api"
)

// Pieces returns the pieces of a source, one behind the other.
func Pieces(src string) (bits []api.Bit, f api.Fault) {
	if len(src) > api.MaxSource {
		return nil, api.Fault{Err: api.ErrLimit}
	}
	// Found pieces stay in a variable of their own until all are there, so that a scanner that gives up leaves none as a result.
	var found []api.Bit
	defer func() {
		if gaveUp, ok := recover().(api.Fault); ok {
			f = gaveUp
		}
	}()
	s := newScanner(src)
	for bit := range s.pieces {
		found = append(found, bit)
	}
	return found, api.Fault{}
}

// Scan returns the tokens of a source, each with the line on which it begins.
func Scan(src string) ([]api.Token, api.Fault) {
	bits, f := Pieces(src)
	var tokens []api.Token
	line := 1
	for _, bit := range bits {
		if bit.Kind <= api.TokSign {
			tokens = append(tokens, api.Token{Kind: bit.Kind, Text: bit.Text, Line: line})
		}
		line += strings.Count(bit.Text, "\n")
	}
	return tokens, f
}

// Bare returns a source with blanks in the place of its comments and pragmas. It keeps their line feeds, so that all tokens keep their lines.
func Bare(src string) (string, api.Fault) {
	bits, f := Pieces(src)
	var bare strings.Builder
	for _, bit := range bits {
		if bit.Kind == api.BitComment || bit.Kind == api.BitPragma {
			bare.WriteString(blanked(bit.Text))
		} else {
			bare.WriteString(bit.Text)
		}
	}
	return bare.String(), f
}

// blanked goes through bytes, not runes: a rune of several bytes would make too few blanks.
func blanked(text string) string {
	blanks := []byte(text)
	for i, b := range blanks {
		if b != '\n' {
			blanks[i] = ' '
		}
	}
	return string(blanks)
}

// Again compares the pieces of a source with those that it has when the bytes between two places are replaced: it returns how many are the same from the beginning on, and how many of the others are from the end on.
func Again(src string, from, to int, by string) (first, last int, f api.Fault) {
	if from < 0 || to < from || len(src) < to {
		return 0, 0, api.Fault{Err: api.ErrArg}
	}
	before, f := Pieces(src)
	if f.Err != api.OK {
		return 0, 0, f
	}
	after, f := Pieces(src[:from] + by + src[to:])
	if f.Err != api.OK {
		return 0, 0, f
	}
	shorter := min(len(before), len(after))
	for first < shorter && before[first] == after[first] {
		first++
	}
	for last < shorter-first && before[len(before)-1-last] == after[len(after)-1-last] {
		last++
	}
	return first, last, api.Fault{}
}
