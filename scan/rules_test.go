package scan_test

import (
	"slices"
	"strings"
	"testing"

	"trestle/api"
	"trestle/scan"
)

// R1, R2, R4: any bytes and any numbers are answered, twice alike, with nothing beside an error.
func TestAnyArguments(t *testing.T) {
	r := random(11)
	numbers := []int{-1 << 63, -1, 0, 1, 2, 7, 10, 16, 17, 1000000000, 1000000001, 1<<63 - 1}
	for range 5000 {
		b := make([]byte, r.IntN(30))
		for i := range b {
			b[i] = byte(r.IntN(256))
		}
		src, by := string(b)+source(r, 4), source(r, 4)
		n, m := numbers[r.IntN(len(numbers))], numbers[r.IntN(len(numbers))]
		asked, again := answers(src, by, n, m), answers(src, by, n, m)
		if !slices.Equal(asked, again) {
			t.Fatalf("%q, %q, %d, %d: %v and %v", src, by, n, m, asked, again)
		}
		for _, a := range asked {
			if a.e != api.OK && a.other {
				t.Fatalf("%q, %q, %d, %d: a result beside an error: %v", src, by, n, m, asked)
			}
		}
	}
}

// answer is the error of a call, and whether it has any other result.
type answer struct {
	name  string
	e     api.Errno
	other bool
	text  string
}

// answers calls everything with the same texts and numbers.
func answers(src, by string, n, m int) []answer {
	bits, pf := scan.Pieces(src)
	tokens, sf := scan.Scan(src)
	bare, bf := scan.Bare(src)
	value, ve := scan.Value(src)
	digits, de := scan.Digits(n, m)
	line, column, spe := scan.Spot(src, n)
	at, ple := scan.Place(src, n, m)
	first, last, af := scan.Again(src, n, m, by)
	var names strings.Builder
	for _, x := range tokens {
		names.WriteString(x.Text + "\n")
	}
	return []answer{
		{"Pieces", pf.Err, len(bits) > 0, joined(bits)},
		{"Scan", sf.Err, len(tokens) > 0, names.String()},
		{"Bare", bf.Err, bare != "", bare},
		{"Value", ve, value != 0, ""},
		{"Digits", de, digits != "", digits},
		{"Spot", spe, line != 0 || column != 0, ""},
		{"Place", ple, at != 0, ""},
		{"Again", af.Err, first != 0 || last != 0, ""},
	}
}

// R3: results share no memory with each other.
func TestResultsAreNewMemory(t *testing.T) {
	const src = "a := 1 (* b *)"
	bits, tokens := mustPieces(t, src), func() []api.Token { l, _ := scan.Scan(src); return l }()
	clear(bits)
	clear(tokens)
	if got := mustPieces(t, src); joined(got) != src {
		t.Errorf("Pieces: %v", got)
	}
	if got, _ := scan.Scan(src); len(got) != 3 || got[0].Text != "a" {
		t.Errorf("Scan: %v", got)
	}
}
