package scan_test

import (
	"strings"
	"testing"

	"trestle/api"
	"trestle/scan"
)

// A5: lines and columns of places, also of sources that have a fault.
func TestSpotAndPlace(t *testing.T) {
	for src, spots := range map[string][][2]int{
		"":            {{1, 1}},
		"\n":          {{1, 1}, {2, 1}},
		"ab\nc":       {{1, 1}, {1, 2}, {1, 3}, {2, 1}, {2, 2}},
		"ab\nc\n":     {{1, 1}, {1, 2}, {1, 3}, {2, 1}, {2, 2}, {3, 1}},
		"\n\na":       {{1, 1}, {2, 1}, {3, 1}, {3, 2}},
		"!\r\n(*\xff": {{1, 1}, {1, 2}, {1, 3}, {2, 1}, {2, 2}, {2, 3}, {2, 4}},
	} {
		for at, want := range spots {
			if line, column, e := scan.Spot(src, at); line != want[0] || column != want[1] || e != api.OK {
				t.Errorf("Spot(%q, %d): %d, %d, %d", src, at, line, column, e)
			}
			if got, e := scan.Place(src, want[0], want[1]); got != at || e != api.OK {
				t.Errorf("Place(%q, %v): %d, %d", src, want, got, e)
			}
		}
	}
}

// A5: places that there are not.
func TestNoPlace(t *testing.T) {
	const src = "ab\nc\n"
	for _, at := range []int{-1, 6, 1 << 40, -1 << 63, 1<<63 - 1} {
		if line, column, e := scan.Spot(src, at); line != 0 || column != 0 || e != api.ErrArg {
			t.Errorf("Spot(%d): %d, %d, %d", at, line, column, e)
		}
	}
	for _, c := range [][2]int{{1, 0}, {1, 4}, {2, 3}, {3, 2}, {0, 1}, {4, 1}, {-1, 1}, {1, -1}, {1, 1<<63 - 1}, {1<<63 - 1, 1}, {-1 << 63, 1}, {3, -1 << 63}} {
		if at, e := scan.Place(src, c[0], c[1]); at != 0 || e != api.ErrArg {
			t.Errorf("Place%v: %d, %d", c, at, e)
		}
	}
}

// A5: a source that is too long is told ahead of a place that there is not; its faults do not matter.
func TestPlaceLimits(t *testing.T) {
	long := strings.Repeat("!", 20001)
	for _, at := range []int{0, -1, 20001} {
		if line, column, e := scan.Spot(long, at); line != 0 || column != 0 || e != api.ErrLimit {
			t.Errorf("Spot(%d) of 20001 bytes: %d, %d, %d", at, line, column, e)
		}
		if got, e := scan.Place(long, at, 1); got != 0 || e != api.ErrLimit {
			t.Errorf("Place(%d, 1) of 20001 bytes: %d, %d", at, got, e)
		}
	}
	if line, column, e := scan.Spot(long[1:], 20000); line != 1 || column != 20001 || e != api.OK {
		t.Errorf("Spot at the end of 20000 bytes: %d, %d, %d", line, column, e)
	}
	if at, e := scan.Place(long[1:], 1, 20001); at != 20000 || e != api.OK {
		t.Errorf("Place at the end of 20000 bytes: %d, %d", at, e)
	}
}

// P1.4: Spot and Place are inverse, both ways.
func TestSpotAndPlaceAreInverse(t *testing.T) {
	r := random(5)
	for range 2000 {
		src := source(r, 10)
		places := 0
		for line := -1; line <= len(src)+2; line++ {
			for column := -1; column <= len(src)+2; column++ {
				at, e := scan.Place(src, line, column)
				if e != api.OK {
					continue
				}
				places++
				if l, c, e := scan.Spot(src, at); l != line || c != column || e != api.OK {
					t.Fatalf("Spot(%q, %d): %d, %d, %d; its place: %d, %d", src, at, l, c, e, line, column)
				}
			}
		}
		if places != len(src)+1 {
			t.Fatalf("%q has %d places", src, places)
		}
	}
}

// P1.4: the line of a token is that of the place at which its piece begins.
func TestLinesOfTokens(t *testing.T) {
	r := random(6)
	for range 5000 {
		src := goodSource(r, 20)
		tokens, _ := scan.Scan(src)
		at := 0
		for _, bit := range mustPieces(t, src) {
			if bit.Kind <= api.TokSign {
				line, _, _ := scan.Spot(src, at)
				if len(tokens) == 0 || tokens[0] != (api.Token{Kind: bit.Kind, Text: bit.Text, Line: line}) {
					t.Fatalf("%q: the token at %d: %v", src, at, tokens)
				}
				tokens = tokens[1:]
			}
			at += len(bit.Text)
		}
		if len(tokens) != 0 {
			t.Fatalf("%q: further tokens: %v", src, tokens)
		}
	}
}
