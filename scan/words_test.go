package scan_test

import (
	"slices"
	"strings"
	"testing"

	"trestle/scan"
)

// A1: what is a name, a word, a brand.
func TestNamesWordsBrands(t *testing.T) {
	for _, c := range []struct {
		s                 string
		name, word, brand bool
	}{
		{"", false, false, false},
		{"x", true, false, true},
		{"Z9", true, false, true},
		{"9Z", false, false, true},
		{"a_b", false, false, true},
		{"END", false, true, true},
		{"End", true, false, true},
		{"ENDS", true, false, true},
		{"OF", false, true, true},
		{"O", true, false, true},
		{"PROCEDURE", false, true, true},
		{"PROCEDURES", true, false, true},
		{"ALERT ALERTED", false, false, true},
		{"ABCDEFGHIJKL", true, false, true},
		{"ABCDEFGHIJKLM", false, false, true},
		{" ", false, false, true},
		{"~", false, false, true},
		{"é", false, false, false},
		{"a\x00", false, false, false},
		{strings.Repeat("n", 12), true, false, true},
		{strings.Repeat("n", 13), false, false, true},
		{strings.Repeat("n", 20), false, false, true},
		{strings.Repeat("n", 21), false, false, false},
		{strings.Repeat(" ", 20), false, false, true},
		{strings.Repeat("\"", 2), false, false, false},
	} {
		if got := scan.IsName(c.s); got != c.name {
			t.Errorf("IsName(%q): %v", c.s, got)
		}
		if got := scan.IsWord(c.s); got != c.word {
			t.Errorf("IsWord(%q): %v", c.s, got)
		}
		if got := scan.IsBrand(c.s); got != c.brand {
			t.Errorf("IsBrand(%q): %v", c.s, got)
		}
	}
}

// A1: each byte, alone and behind a letter.
func TestBytesOfNamesAndBrands(t *testing.T) {
	for i := range 256 {
		s := string([]byte{byte(i)})
		letter := strings.Contains("ABCDEFGHIJKLMNOPQRSTUVWXYZabcdefghijklmnopqrstuvwxyz", s)
		digit := strings.Contains("0123456789", s)
		if scan.IsName(s) != letter {
			t.Errorf("IsName(%q): %v", s, !letter)
		}
		if scan.IsName("n"+s) != (letter || digit) {
			t.Errorf("IsName(%q): %v", "n"+s, !letter && !digit)
		}
		if brand := i >= 32 && i <= 126 && i != '"'; scan.IsBrand("n"+s) != brand {
			t.Errorf("IsBrand(%q): %v", "n"+s, !brand)
		}
	}
}

// A1: the lists are the chapter's, in ascending order.
func TestWordsAndSigns(t *testing.T) {
	words, signs := scan.Words(), scan.Signs()
	if !slices.Equal(words, strings.Split(chapterWords, " ")) || !slices.IsSorted(words) {
		t.Errorf("Words: %q", words)
	}
	if !slices.Equal(signs, strings.Split(chapterSigns, " ")) || !slices.IsSorted(signs) {
		t.Errorf("Signs: %q", signs)
	}
	for _, w := range words {
		if !scan.IsWord(w) || scan.IsName(w) || scan.IsWord(strings.ToLower(w)) || scan.IsWord(w+"X") || !scan.IsName(strings.ToLower(w)) {
			t.Errorf("the word %q", w)
		}
	}
}

// R3: what is changed in a list is not changed in the next one.
func TestListsAreNewMemory(t *testing.T) {
	words, signs := scan.Words(), scan.Signs()
	words[0], signs[0] = "x", "x"
	if scan.Words()[0] != "ALERT" || scan.Signs()[0] != "#" || scan.IsWord("x") || !scan.IsWord("ALERT") {
		t.Error("a list was changed from outside")
	}
}
