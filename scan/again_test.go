package scan_test

import (
	"strings"
	"testing"

	"trestle/api"
	"trestle/scan"
)

// A6: how many pieces stay, from the beginning and from the end.
func TestAgain(t *testing.T) {
	for _, c := range []struct {
		src         string
		from, to    int
		by          string
		first, last int
	}{
		{"", 0, 0, "", 0, 0},
		{"", 0, 0, "a b", 0, 0},
		{"a b", 0, 3, "", 0, 0},
		{"a + b", 2, 3, "-", 2, 2},
		{"a + b", 4, 5, "c", 4, 0},
		{"a + b", 0, 1, "c", 0, 4},
		{"ab cd", 1, 1, "x", 0, 2},
		{"ab", 2, 2, " c", 1, 0},
		{"ab", 2, 2, "c", 0, 0},
		{"a a", 0, 3, "a a", 3, 0},
		{"a a", 1, 1, " a", 3, 0},
		{"a a a", 1, 3, "", 3, 0},
		{"a;a;b", 0, 2, "", 2, 1},
		{"x (* y *) z", 5, 6, "END", 2, 2},
		{"x (* y *) z", 2, 9, "y", 2, 2},
		{"a(*b*)c", 4, 4, "*)(*", 2, 1},
		{"a(*b*)c", 1, 3, "", 0, 1},
	} {
		if first, last, f := scan.Again(c.src, c.from, c.to, c.by); first != c.first || last != c.last || f != (api.Fault{}) {
			t.Errorf("Again(%q, %d, %d, %q): %d, %d, %v", c.src, c.from, c.to, c.by, first, last, f)
		}
	}
}

// A6: faults, in their order: the places, the source, the other source.
func TestAgainFaults(t *testing.T) {
	long := strings.Repeat(" ", 20001)
	for _, c := range []struct {
		src      string
		from, to int
		by       string
		want     api.Fault
	}{
		{"a", -1, 0, "", api.Fault{Err: api.ErrArg}},
		{"a", 1, 0, "", api.Fault{Err: api.ErrArg}},
		{"a", 0, 2, "", api.Fault{Err: api.ErrArg}},
		{"a", 2, 2, "", api.Fault{Err: api.ErrArg}},
		{"a", -1 << 63, 1<<63 - 1, "", api.Fault{Err: api.ErrArg}},
		{"!", 2, 2, "", api.Fault{Err: api.ErrArg}},
		{long, 0, 20002, "", api.Fault{Err: api.ErrArg}},
		{long, 0, 1, "", api.Fault{Err: api.ErrLimit}},
		{long[1:], 0, 0, " ", api.Fault{Err: api.ErrLimit}},
		{"!", 0, 1, "", api.Fault{Err: api.ErrChar, At: 1}},
		{"\n!", 0, 2, "007", api.Fault{Err: api.ErrChar, At: 2}},
		{"a", 0, 0, "\n!", api.Fault{Err: api.ErrChar, At: 2}},
		{"( x )", 1, 1, "*", api.Fault{Err: api.ErrOpen, At: 1}},
		{"16_F", 4, 4, "f", api.Fault{Err: api.ErrNumber, At: 1}},
		{"twelveLetter", 0, 0, "x", api.Fault{Err: api.ErrLong, At: 1}},
		{"\"a\"", 2, 3, "", api.Fault{Err: api.ErrText, At: 1}},
	} {
		if first, last, f := scan.Again(c.src, c.from, c.to, c.by); first != 0 || last != 0 || f != c.want {
			t.Errorf("Again(%.20q, %d, %d, %q): %d, %d, %v", c.src, c.from, c.to, c.by, first, last, f)
		}
	}
	if first, last, f := scan.Again(long[1:], 0, 1, " "); first != 1 || last != 0 || f != (api.Fault{}) {
		t.Errorf("Again of 20000 bytes: %d, %d, %v", first, last, f)
	}
}

// edit is a source, another one with some of its bytes replaced, and the pieces of both.
type edit struct {
	src           string
	from, to      int
	by            string
	before, after []api.Bit
}

// edits calls f with edits of sources that have no fault.
func edits(t *testing.T, seed uint64, f func(edit)) {
	r := random(seed)
	for done := 0; done < 5000; {
		src := goodSource(r, 15)
		from := r.IntN(len(src) + 1)
		to := from + r.IntN(min(len(src)-from, 4)+1)
		by := source(r, 2)
		after, fault := byTable(src[:from] + by + src[to:])
		if fault != (api.Fault{}) {
			continue
		}
		before, _ := byTable(src)
		f(edit{src, from, to, by, before, after})
		done++
	}
}

// A6: first and last are as great as they can be, and no greater.
func TestAgainCounts(t *testing.T) {
	edits(t, 8, func(c edit) {
		first, last, f := scan.Again(c.src, c.from, c.to, c.by)
		if f != (api.Fault{}) {
			t.Fatalf("%+v: %v", c, f)
		}
		restBefore, restAfter := c.before[first:], c.after[first:]
		for i := range first {
			if c.before[i] != c.after[i] {
				t.Fatalf("%+v: the first %d are not the same", c, first)
			}
		}
		if len(restBefore) > 0 && len(restAfter) > 0 && restBefore[0] == restAfter[0] {
			t.Fatalf("%+v: more than the first %d are the same", c, first)
		}
		for i := 1; i <= last; i++ {
			if restBefore[len(restBefore)-i] != restAfter[len(restAfter)-i] {
				t.Fatalf("%+v: the last %d are not the same", c, last)
			}
		}
		b, a := len(restBefore)-last, len(restAfter)-last
		if b > 0 && a > 0 && restBefore[b-1] == restAfter[a-1] {
			t.Fatalf("%+v: more than the last %d are the same", c, last)
		}
	})
}

// P1.5: pieces that end ahead of the edit are among the first ones.
func TestPiecesAheadOfAnEditStay(t *testing.T) {
	edits(t, 9, func(c edit) {
		first, _, _ := scan.Again(c.src, c.from, c.to, c.by)
		ahead, end := 0, 0
		for _, bit := range c.before {
			end += len(bit.Text)
			if end < c.from {
				ahead++
			}
		}
		if first < ahead {
			t.Fatalf("%+v: %d pieces end ahead of it, but the first ones are %d", c, ahead, first)
		}
	})
}

// P1.5: where a piece behind the edit begins as one began before, it and all behind it are among the last ones.
func TestPiecesBehindAnEditStay(t *testing.T) {
	edits(t, 10, func(c edit) {
		first, last, _ := scan.Again(c.src, c.from, c.to, c.by)
		begins := map[int]bool{}
		left := len(joined(c.after))
		for _, bit := range c.after {
			begins[left] = true
			left -= len(bit.Text)
		}
		at := 0
		for i, bit := range c.before {
			if at >= c.to && begins[len(c.src)-at] {
				stay := min(len(c.before)-i, len(c.before)-first, len(c.after)-first)
				if last < stay {
					t.Fatalf("%+v: %d pieces from %d on, but the last ones are %d behind %d", c, stay, at, last, first)
				}
				break
			}
			at += len(bit.Text)
		}
	})
}
