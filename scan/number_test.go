package scan_test

import (
	"slices"
	"strconv"
	"strings"
	"testing"

	"trestle/api"
	"trestle/scan"
)

// A2: values of numbers.
func TestValue(t *testing.T) {
	for s, want := range map[string]int{
		"0": 0, "9": 9, "10": 10, "1000000000": 1000000000,
		"16_FF": 255, "2_0101": 5, "2_0": 0, "10_0007": 7, "10_1000000000": 1000000000, "9_88": 80, "11_A": 10,
		"16_3B9ACA00":                         1000000000,
		"2_" + strings.Repeat("0", 30):        0,
		"16_" + strings.Repeat("0", 30):       0,
		"16_" + strings.Repeat("0", 29) + "F": 15,
	} {
		if n, e := scan.Value(s); n != want || e != api.OK {
			t.Errorf("Value(%q): %d, %d", s, n, e)
		}
	}
}

// A2: what is no number.
func TestValueOfNoNumber(t *testing.T) {
	for _, s := range []string{
		"", " ", "x", "-1", "+1", "1 ", "00", "007", "0x1", "1.0", "1000000001", "9999999999", strings.Repeat("9", 30),
		"_", "_1", "16_", "16_ff", "16_G", "16__1", "16_-1", "2_2", "8_8", "10_A", "0_0", "1_0", "17_0", "02_1", "016_1", "4_3_2", "A_1",
		"16_3B9ACA01", "10_1000000001", "16_" + strings.Repeat("F", 30), "2_" + strings.Repeat("1", 30),
		"2_" + strings.Repeat("0", 31), "16_" + strings.Repeat("0", 30) + "1",
		"18446744073709551616", "18446744073709551617_1", "16_10000000000000000", "16_10000000000000001", "é", "1\x00",
	} {
		if n, e := scan.Value(s); n != 0 || e != api.ErrNumber {
			t.Errorf("Value(%q): %d, %d", s, n, e)
		}
	}
}

// A2: all short texts over some bytes, as the patterns have them.
func TestValueByTable(t *testing.T) {
	texts := []string{""}
	for range 5 {
		longer := []string{""}
		for _, s := range texts {
			for _, b := range "0126F_a" {
				longer = append(longer, s+string(b))
			}
		}
		texts = longer
	}
	for _, s := range texts {
		n, e := scan.Value(s)
		if want, ok := valueByTable(s); n != want || (e == api.OK) != ok || e != api.OK && e != api.ErrNumber {
			t.Fatalf("Value(%q): %d, %d", s, n, e)
		}
	}
}

// A2: the bounds of Digits.
func TestDigits(t *testing.T) {
	for _, c := range []struct {
		n, base int
		want    string
		e       api.Errno
	}{
		{255, 16, "16_FF", api.OK},
		{255, 10, "255", api.OK},
		{0, 10, "0", api.OK},
		{0, 2, "2_0", api.OK},
		{0, 16, "16_0", api.OK},
		{10, 11, "11_A", api.OK},
		{1000000000, 10, "1000000000", api.OK},
		{1000000000, 2, "2_111011100110101100101000000000", api.OK},
		{1000000000, 16, "16_3B9ACA00", api.OK},
		{1000000001, 10, "", api.ErrArg},
		{-1, 10, "", api.ErrArg},
		{5, 17, "", api.ErrArg},
		{5, 1, "", api.ErrArg},
		{5, 0, "", api.ErrArg},
		{5, -10, "", api.ErrArg},
		{5, 1 << 40, "", api.ErrArg},
		{-1 << 63, 10, "", api.ErrArg},
		{1<<63 - 1, 16, "", api.ErrArg},
	} {
		if s, e := scan.Digits(c.n, c.base); s != c.want || e != c.e {
			t.Errorf("Digits(%d, %d): %q, %d", c.n, c.base, s, e)
		}
	}
}

// P1.7: Value of Digits is the number; it is one piece, and the shortest one.
func TestValueOfDigits(t *testing.T) {
	r := random(7)
	numbers := []int{0, 1, 2, 9, 10, 15, 16, 255, 999999999, 1000000000}
	for range 2000 {
		numbers = append(numbers, r.IntN(1000000001)>>r.IntN(30))
	}
	for _, n := range numbers {
		for base := 2; base <= 16; base++ {
			s, e := scan.Digits(n, base)
			if e != api.OK {
				t.Fatalf("Digits(%d, %d): %d", n, base, e)
			}
			if got, e := scan.Value(s); got != n || e != api.OK {
				t.Fatalf("Value(%q): %d, %d", s, got, e)
			}
			if bits := mustPieces(t, s); !slices.Equal(bits, []api.Bit{{Kind: api.TokNumber, Text: s}}) {
				t.Fatalf("Pieces(%q): %v", s, bits)
			}
			if digits := strings.TrimPrefix(s, strconv.Itoa(base)+"_"); len(digits) > 1 && digits[0] == '0' || (digits == s) != (base == 10) {
				t.Fatalf("Digits(%d, %d): %q is not the shortest number of the base", n, base, s)
			}
		}
	}
}
