package scan_test

import (
	"math/big"
	"math/rand/v2"
	"regexp"
	"strconv"
	"strings"
	"testing"

	"trestle/api"
	"trestle/scan"
)

// The chapter's table once more, as patterns: what the scanner finds is held against them.
var (
	blankRow   = regexp.MustCompile(`^[ \t\n]+`)
	bracketRow = regexp.MustCompile(`\(\*|\*\)`)
	pragmaRow  = regexp.MustCompile(`(?s)^<\*.*?\*>`)
	lettersRow = regexp.MustCompile(`^[A-Za-z][A-Za-z0-9]*`)
	numberRow  = regexp.MustCompile(`^[0-9]+(_[A-Za-z0-9]*)?`)
	textRow    = regexp.MustCompile(`^"[^"\n]*"`)
	signRow    = regexp.MustCompile(`^(\.\.|:=|<:|<=|=>|[#()*+,.:;<=\[\]^{|}-])`)

	plainNumber = regexp.MustCompile(`^(0|[1-9][0-9]*)$`)
	basedNumber = regexp.MustCompile(`^([2-9]|1[0-6])_([0-9A-F]{1,30})$`)
	brandText   = regexp.MustCompile(`^"[ !#-~]{1,20}"$`)
	wordText    = regexp.MustCompile(`^(` + strings.ReplaceAll(chapterWords, " ", "|") + `)$`)
)

// chapterWords and chapterSigns are the chapter's lists, copied.
const (
	chapterWords = "ALERT ALERTED ALL AND ARRAY BEGIN BOOLEAN BRANDED CONDITION CONST DIV DO ELSE ELSIF END EXCEPT EXCEPTION EXPORTS FALSE FINALLY FORK GENERIC IF IMPORT INTEGER INTERFACE JOIN LOCK LOOPHOLE METHODS MOD MODULE MUTEX NARROW NEW NIL NOT NULL NUMBER OBJECT OF OR OVERRIDES PROCEDURE PUT RAISE RAISES RECORD REF REFANY RETURN REVEAL ROOT SIGNAL THEN TRUE TRY TYPE TYPECASE UNSAFE VAR WAIT WHILE"
	chapterSigns = "# ( ) * + , - . .. : := ; < <: <= = => [ ] ^ { | }"
)

// byTable returns the pieces of a source as the patterns find them.
func byTable(src string) ([]api.Bit, api.Fault) {
	if len(src) > 20000 {
		return nil, api.Fault{Err: api.ErrLimit}
	}
	var bits []api.Bit
	for rest := src; rest != ""; {
		kind, text, e := rowOf(rest)
		if e != api.OK {
			ahead := src[:len(src)-len(rest)]
			return nil, api.Fault{Err: e, At: len(strings.Split(ahead, "\n"))}
		}
		bits = append(bits, api.Bit{Kind: kind, Text: text})
		rest = rest[len(text):]
	}
	return bits, api.Fault{}
}

// rowOf returns the first piece of a text, or why there cannot be one.
func rowOf(rest string) (uint8, string, api.Errno) {
	if text := blankRow.FindString(rest); text != "" {
		return api.BitBlank, text, api.OK
	}
	if strings.HasPrefix(rest, "(*") {
		return commentOf(rest)
	}
	if strings.HasPrefix(rest, "<*") {
		text := pragmaRow.FindString(rest)
		return api.BitPragma, text, errorUnless(text != "", api.ErrOpen)
	}
	if text := lettersRow.FindString(rest); wordText.MatchString(text) {
		return api.TokWord, text, api.OK
	} else if text != "" {
		return api.TokName, text, errorUnless(len(text) <= 12, api.ErrLong)
	}
	if text := numberRow.FindString(rest); text != "" {
		_, ok := valueByTable(text)
		return api.TokNumber, text, errorUnless(ok, api.ErrNumber)
	}
	if rest[0] == '"' {
		text := textRow.FindString(rest)
		return api.TokText, text, errorUnless(brandText.MatchString(text), api.ErrText)
	}
	text := signRow.FindString(rest)
	return api.TokSign, text, errorUnless(text != "", api.ErrChar)
}

func commentOf(rest string) (uint8, string, api.Errno) {
	depth := 0
	for _, at := range bracketRow.FindAllStringIndex(rest, -1) {
		if rest[at[0]] == '(' {
			depth++
		} else {
			depth--
		}
		if depth == 0 {
			return api.BitComment, rest[:at[1]], api.OK
		}
	}
	return 0, "", api.ErrOpen
}

func valueByTable(text string) (int, bool) {
	base, digits := 10, text
	if parts := basedNumber.FindStringSubmatch(text); parts != nil {
		base, _ = strconv.Atoi(parts[1])
		digits = parts[2]
	} else if !plainNumber.MatchString(text) {
		return 0, false
	}
	n, ok := new(big.Int).SetString(digits, base)
	if !ok || n.Cmp(big.NewInt(1000000000)) > 0 {
		return 0, false
	}
	return int(n.Int64()), true
}

func errorUnless(ok bool, e api.Errno) api.Errno {
	if ok {
		return api.OK
	}
	return e
}

// random returns a source of chance that is the same in each run.
func random(seed uint64) *rand.Rand { return rand.New(rand.NewPCG(seed, 1)) }

// fragments make up the sources of the random tests: what is whole, what is cut, and what does not fit.
var fragments = strings.Split("x|name|twelveLetter|END|BEGIN|ALERTED|Alert|0|7|007|1000000000|1000000001|16_FF|2_2|2_01|16_|_|12ab|\"a\"|\"a brand\"|\"\"|\"|"+
	"twentyone bytes of it|(|)|*|+|<|>|=|:|.|..|<:|<=|=>|:=|#|[|]|^|{|}|;|,|-| |  |\t|\n|\n\n|(*|*)|(*)|(**)|(* a *)|(* (* b\n *) *)|<*|*>|<*>|<**>|<* c\n *>|!|\r|\x00|\xff|é|thirteenBytes", "|")

// source returns some fragments, one behind the other.
func source(r *rand.Rand, most int) string {
	var b strings.Builder
	for range r.IntN(most + 1) {
		b.WriteString(fragments[r.IntN(len(fragments))])
	}
	return b.String()
}

// goodSource returns fragments alone that can be added to what was there without a fault.
func goodSource(r *rand.Rand, most int) string {
	src := ""
	for range r.IntN(most + 1) {
		longer := src + fragments[r.IntN(len(fragments))]
		if _, f := byTable(longer); f == (api.Fault{}) {
			src = longer
		}
	}
	return src
}

// mustPieces returns the pieces of a source that has no fault.
func mustPieces(t *testing.T, src string) []api.Bit {
	t.Helper()
	bits, f := scan.Pieces(src)
	if f != (api.Fault{}) {
		t.Fatalf("Pieces(%.60q): fault %v", src, f)
	}
	return bits
}

// joined returns the Texts of pieces, one behind the other.
func joined(bits []api.Bit) string {
	var b strings.Builder
	for _, bit := range bits {
		b.WriteString(bit.Text)
	}
	return b.String()
}
