package scan

import (
	"strings"

	"trestle/api"
)

// scanner finds pieces: the one that it is at begins at from, and reaches to the cursor.
type scanner struct {
	cursor
	from  int
	words map[string]bool
	signs []string
}

// finder moves the cursor over a piece that begins there and returns its kind; it returns 0 for what begins otherwise, and does not move then.
type finder = func(*scanner) uint8

// noPiece is the kind of what does not begin as a finder's pieces do.
const noPiece uint8 = 0

func newScanner(src string) *scanner {
	return &scanner{cursor: cursor{src: src}, words: wordSet(), signs: Signs()}
}

// finders are tried in this order: comments and pragmas begin with signs, and so come ahead of these.
func finders() [7]finder {
	return [7]finder{
		(*scanner).blank,
		(*scanner).comment,
		(*scanner).pragma,
		(*scanner).letters,
		(*scanner).number,
		(*scanner).text,
		(*scanner).sign,
	}
}

// pieces yields the pieces of the source, from the cursor on.
func (s *scanner) pieces(yield func(api.Bit) bool) {
	for !s.done() {
		if !yield(s.next()) {
			return
		}
	}
}

// next returns the piece that begins at the cursor.
func (s *scanner) next() api.Bit {
	s.from = s.at
	for _, find := range finders() {
		if kind := find(s); kind != noPiece {
			return api.Bit{Kind: kind, Text: s.piece()}
		}
	}
	panic(s.fault(api.ErrChar))
}

// piece returns the bytes from the beginning of the piece up to the cursor.
func (s *scanner) piece() string { return s.src[s.from:s.at] }

// fault returns an error with the line on which the piece begins, which may be ahead of the cursor's.
func (s *scanner) fault(e api.Errno) api.Fault {
	return api.Fault{Err: e, At: 1 + strings.Count(s.src[:s.from], "\n")}
}

func (s *scanner) blank() uint8 {
	isBlank := func(b byte) bool { return b == ' ' || b == '\t' || b == '\n' }
	if !s.on(isBlank) {
		return noPiece
	}
	s.over(isBlank)
	return api.BitBlank
}

func (s *scanner) comment() uint8 {
	if !s.take("(*") {
		return noPiece
	}
	depth := 1
nested:
	for {
		switch {
		case s.take("(*"):
			depth++
		case s.take("*)"):
			depth--
			if depth == 0 {
				break nested
			}
		case s.done():
			panic(s.fault(api.ErrOpen))
		default:
			s.at++
		}
	}
	return api.BitComment
}

func (s *scanner) pragma() uint8 {
	if !s.take("<*") {
		return noPiece
	}
	if !s.behind("*>") {
		panic(s.fault(api.ErrOpen))
	}
	return api.BitPragma
}

func (s *scanner) letters() uint8 {
	if !s.on(isLetter) {
		return noPiece
	}
	s.over(isLetterOrDigit)
	if s.words[s.piece()] {
		return api.TokWord
	}
	if len(s.piece()) > api.MaxName {
		panic(s.fault(api.ErrLong))
	}
	return api.TokName
}

func (s *scanner) number() uint8 {
	if !s.on(isDigit) {
		return noPiece
	}
	s.over(isDigit)
	if s.take("_") {
		s.over(isLetterOrDigit)
	}
	if _, e := Value(s.piece()); e != api.OK {
		panic(s.fault(api.ErrNumber))
	}
	return api.TokNumber
}

func (s *scanner) text() uint8 {
	if !s.take(`"`) {
		return noPiece
	}
	s.over(func(b byte) bool { return b != '"' && b != '\n' })
	brand := s.piece()[1:]
	if !s.take(`"`) || !IsBrand(brand) {
		panic(s.fault(api.ErrText))
	}
	return api.TokText
}

func (s *scanner) sign() uint8 {
	longest := ""
	for _, sign := range s.signs {
		// In ascending order a sign's continuations stand behind it, so that the last one that fits is the longest.
		if s.sees(sign) {
			longest = sign
		}
	}
	if longest == "" {
		return noPiece
	}
	s.take(longest)
	return api.TokSign
}
