package scan

import (
	"strconv"
	"strings"

	"trestle/api"
)

const (
	digitsOfBases = "0123456789ABCDEF"
	leastBase     = 2
	greatestBase  = 16
	mostDigits    = 30
)

// Value returns the value of a number, in decimal digits or with a base of its own.
func Value(s string) (int, api.Errno) {
	head, tail, based := strings.Cut(s, "_")
	n, ok := plainValue(head)
	if ok && based {
		n, ok = basedValue(tail, n)
	}
	if !ok {
		return 0, api.ErrNumber
	}
	return n, api.OK
}

// plainValue allows no leading zeros.
func plainValue(digits string) (int, bool) {
	if len(digits) > 1 && digits[0] == '0' {
		return 0, false
	}
	return valueOf(digits, 10)
}

// basedValue allows leading zeros, as the number of digits is bounded.
func basedValue(digits string, base int) (int, bool) {
	if base < leastBase || base > greatestBase || len(digits) > mostDigits {
		return 0, false
	}
	return valueOf(digits, base)
}

// valueOf gives up at the first digit that makes a number too great, so that no number of digits can overflow.
func valueOf(digits string, base int) (int, bool) {
	n := 0
	for i := range len(digits) {
		digit := strings.IndexByte(digitsOfBases[:base], digits[i])
		if digit < 0 {
			return 0, false
		}
		n = n*base + digit
		if n > api.MaxInt {
			return 0, false
		}
	}
	return n, digits != ""
}

// Digits returns the shortest number with a value: for the base 10 without a base, otherwise with it.
func Digits(n, base int) (string, api.Errno) {
	if n < 0 || n > api.MaxInt || base < leastBase || base > greatestBase {
		return "", api.ErrArg
	}
	if base == 10 {
		return strconv.Itoa(n), api.OK
	}
	digits := strings.ToUpper(strconv.FormatInt(int64(n), base))
	return strconv.Itoa(base) + "_" + digits, api.OK
}
