package types

import (
	"strings"

	"trestle/api"
)

const (
	mostPairs = 2000
	mostText  = 100000
)

// IsName reports whether a string is a name, reserved or not.
func IsName(s string) bool {
	return s != "" && len(s) <= api.MaxName && isLetter(s[0]) && len(letters(s)) == len(s)
}

// IsSymbol reports whether a string is two names with a dot between.
func IsSymbol(s string) bool {
	unit, name, _ := strings.Cut(s, ".")
	return IsName(unit) && IsName(name)
}

// letters returns the letters and digits with which a text begins.
func letters(s string) string {
	for i := range len(s) {
		if !isLetter(s[i]) && !isDigit(s[i]) {
			return s[:i]
		}
	}
	return s
}

func isLetter(c byte) bool { return 'A' <= c && c <= 'Z' || 'a' <= c && c <= 'z' }

func isDigit(c byte) bool { return '0' <= c && c <= '9' }

// isBrand reports whether a text may stand between signs of a text.
func isBrand(s string) bool {
	if len(s) > api.MaxText {
		return false
	}
	for i := range len(s) {
		if s[i] < ' ' || s[i] > '~' || s[i] == '"' {
			return false
		}
	}
	return true
}

// isException reports whether a string is what a signature may raise.
func isException(s string) bool { return s == "ALERTED" || IsSymbol(s) }
