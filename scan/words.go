package scan

import (
	"strings"

	"trestle/api"
)

// wordList has all reserved words, in ascending order.
const wordList = "ALERT ALERTED ALL AND ARRAY BEGIN BOOLEAN BRANDED CONDITION CONST DIV DO ELSE ELSIF END " +
	"EXCEPT EXCEPTION EXPORTS FALSE FINALLY FORK GENERIC IF IMPORT INTEGER INTERFACE JOIN LOCK LOOPHOLE " +
	"METHODS MOD MODULE MUTEX NARROW NEW NIL NOT NULL NUMBER OBJECT OF OR OVERRIDES PROCEDURE PUT RAISE " +
	"RAISES RECORD REF REFANY RETURN REVEAL ROOT SIGNAL THEN TRUE TRY TYPE TYPECASE UNSAFE VAR WAIT WHILE"

// signList has all signs, in ascending order.
const signList = "# ( ) * + , - . .. : := ; < <: <= = => [ ] ^ { | }"

// The lengths of the shortest and of the longest reserved words.
const (
	shortestWord = 2
	longestWord  = 9
)

// Words returns all reserved words in ascending order.
func Words() []string { return strings.Fields(wordList) }

// Signs returns all signs in ascending order.
func Signs() []string { return strings.Fields(signList) }

// IsWord reports whether a string is a reserved word. The set of them is made anew by each call, so what has not the looks of one is turned away before.
func IsWord(s string) bool {
	if len(s) < shortestWord || len(s) > longestWord || !all(s, isCapital) {
		return false
	}
	return wordSet()[s]
}

func wordSet() map[string]bool {
	set := map[string]bool{}
	for _, word := range Words() {
		set[word] = true
	}
	return set
}

// IsName reports whether a string is a name.
func IsName(s string) bool {
	if s == "" || len(s) > api.MaxName || !isLetter(s[0]) {
		return false
	}
	return all(s, isLetterOrDigit) && !IsWord(s)
}

// IsBrand reports whether a string is a brand.
func IsBrand(s string) bool {
	if s == "" || len(s) > api.MaxText {
		return false
	}
	return all(s, func(b byte) bool { return ' ' <= b && b <= '~' && b != '"' })
}

// all reports whether a property holds for each byte of a string.
func all(s string, is func(byte) bool) bool {
	for i := range len(s) {
		if !is(s[i]) {
			return false
		}
	}
	return true
}

func isCapital(b byte) bool { return 'A' <= b && b <= 'Z' }

func isLetter(b byte) bool { return isCapital(b) || 'a' <= b && b <= 'z' }

func isDigit(b byte) bool { return '0' <= b && b <= '9' }

func isLetterOrDigit(b byte) bool { return isLetter(b) || isDigit(b) }
