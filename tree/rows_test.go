package tree_test

import (
	"regexp"
	"slices"
	"strconv"
	"strings"
	"testing"

	"trestle/api"
	"trestle/scan"
	"trestle/tree"
)

// tableOfRows is the chapter's table once more, as patterns: behind each kind what its fields, and behind => what its kids may be.
//
// Fields are written as Name, Unit, Var, N and Type; a text is E (empty), n (a name), b (a brand that is none), ! (anything else), or a word or an operator as it is. Kids are written as a letter each, with T for any type and X for any expression.
const tableOfRows = `
1 n [En] E 0 0=>
2 (INTEGER|BOOLEAN|REFANY|NULL|ROOT|MUTEX|CONDITION) E E 0 0=>
3 E E E 0 0=>XX
4 BRANDED=>T
5 BRANDED=>d{1,8}
6 BRANDED=>T
7 BRANDED=>[kr]d{0,8}m{0,8}v{0,8}
8 n E E 0 0=>T
9 n E E 0 0=>sN?
10 n E E 0 0=>N
11 E E E 0 0=>p{0,6}e{0,6}T?
12 n E E 0 0=>T
13 (n [En]|ALERTED E) E 0 0=>
20 E E E ([0-9]{1,9}|1000000000) 0=>
21 E E E 0 0=>
22 E E E [01] 0=>
23 n [En] E 0 0=>
24 n E E 0 0=>X
25 E E E 0 0=>XX
26 E E E 0 0=>X
27 E E E 0 0=>[NF]X{0,6}
28 E E E 0 0=>TX?
29 (NOT|-) E E 0 0=>X
29 ([+]|-|[*]|DIV|MOD|<|<=|=|#|AND|OR) E E 0 0=>XX
30 E E E 0 0=>XT
31 E E E 0 0=>X
32 E E E 0 0=>XT
33 E E E 0 0=>X
40 E E E 0 0=>S*
41 n E E 0 0=>TX
42 E E E 0 0=>[NFID]X
43 E E E 0 0=>C
44 E E E 0 0=>Xqq?
45 E E E 0 0=>Xq
46 E E E 0 0=>X?
47 (n [En]|ALERTED E) E 0 0=>
48 E E E 0 0=>q(h+H?|H)
49 (n [En]|ALERTED E|E E) E 0 0=>q
50 E E E 0 0=>qq
51 E E E 0 0=>Xq
52 E E E 0 0=>X(t+u?|u)
53 E E [En] 0 0=>Tq
53 E E E 0 0=>q
54 E E E 0 0=>X
55 E E E 0 0=>X
56 E E E 0 0=>XX
57 E E E 0 0=>X
58 E E E 0 0=>X
59 E E E 0 0=>X
`

// letters are those of the kinds in kids, from the kind 1 on; a blank is a kind that there is not.
const letters = "kigfcaodmvspe      xxxNFIDCxxxxxx      qSSSSSSSShSSStSSSSSS"

const (
	typeLetters = "[krigfcao]"
	exprLetters = "[xNFIDC]"
)

// table is the patterns of each kind.
type table map[uint8][]*regexp.Regexp

func newTable() table {
	rows := table{}
	for _, line := range strings.Split(strings.TrimSpace(tableOfRows), "\n") {
		kind, pattern, _ := strings.Cut(line, " ")
		n, _ := strconv.Atoi(kind)
		fields, kids, _ := strings.Cut(pattern, "=>")
		fields = strings.ReplaceAll(fields, "BRANDED", "(E E E 0 0|[^E! ][^ ]* E E 1 0)")
		kids = strings.NewReplacer("T", typeLetters, "X", exprLetters).Replace(kids)
		rows[uint8(n)] = append(rows[uint8(n)], regexp.MustCompile("^("+fields+")=>("+kids+")$"))
	}
	return rows
}

var (
	namePattern  = regexp.MustCompile(`^[A-Za-z][A-Za-z0-9]{0,11}$`)
	brandPattern = regexp.MustCompile(`^[ !#-~]{1,20}$`)
)

// textClass returns what the table has for a text.
func textClass(s string) string {
	switch {
	case s == "":
		return "E"
	case slices.Contains(scan.Words(), s), slices.Contains(scan.Signs(), s):
		return s
	case namePattern.MatchString(s):
		return "n"
	case brandPattern.MatchString(s):
		return "b"
	}
	return "!"
}

// letter returns what the table has for a kid.
func letter(n api.Node) string {
	switch {
	case n.Kind < 1 || int(n.Kind) > len(letters):
		return " "
	case n.Kind == 2 && (n.Name == "ROOT" || n.Name == "MUTEX"):
		return "r"
	case n.Kind == 49 && n.Name == "":
		return "H"
	case n.Kind == 53 && len(n.Kids) == 1:
		return "u"
	}
	return letters[n.Kind-1 : n.Kind]
}

// fits reports whether a node is as the table says.
func (rows table) fits(l []api.Node, n api.Node) bool {
	text := strings.Join([]string{textClass(n.Name), textClass(n.Unit), textClass(n.Var), strconv.Itoa(n.N), strconv.Itoa(n.Type)}, " ") + "=>"
	for _, kid := range n.Kids {
		text += letter(l[kid])
	}
	return slices.ContainsFunc(rows[n.Kind], func(row *regexp.Regexp) bool { return row.MatchString(text) })
}

// tree reports whether nodes are a tree: it looks at what is below each node, as the chapter says it.
func (rows table) tree(l []api.Node) bool {
	if len(l) == 0 || len(l) > 400 {
		return false
	}
	parents := make([]int, len(l))
	size := make([]int, len(l))
	for i, n := range l {
		size[i] = 1
		for k, kid := range n.Kids {
			if kid < 0 || kid >= i || k > 0 && kid <= n.Kids[k-1] {
				return false
			}
			parents[kid]++
			size[i] += size[kid]
		}
		// The last nodes of the kids stand at the ends of what is below them.
		end := i
		for _, kid := range slices.Backward(n.Kids) {
			if kid != end-1 {
				return false
			}
			end -= size[kid]
		}
		if !rows.fits(l, n) {
			return false
		}
	}
	for _, n := range parents[:len(l)-1] {
		if n != 1 {
			return false
		}
	}
	return size[len(l)-1] == len(l)
}

// rooted reports whether nodes are a tree with a root of some letters.
func (rows table) rooted(l []api.Node, letters string) bool {
	return rows.tree(l) && regexp.MustCompile("^"+letters+"$").MatchString(letter(l[len(l)-1]))
}

func compareRows(t *testing.T, rows table, l []api.Node) {
	t.Helper()
	if got, want := tree.IsType(l), rows.rooted(l, typeLetters); got != want {
		t.Fatalf("IsType(%+v): %v", l, got)
	}
	if got, want := tree.IsExpr(l), rows.rooted(l, exprLetters); got != want {
		t.Fatalf("IsExpr(%+v): %v", l, got)
	}
	if got, want := tree.IsBlock(l), rows.rooted(l, "q"); got != want {
		t.Fatalf("IsBlock(%+v): %v", l, got)
	}
}

// strangeTexts and strangeNumbers may stand in the place of what belongs there.
var (
	strangeTexts   = []string{"", "", "x", "E", "ALERTED", "ROOT", "INTEGER", "MUTEX", "REFANY", "NOT", "-", "+", "AND", "=", "a brand", "a\"b", "é", "1x", "thirteenBytes", "twentyone bytes of it", "\n"}
	strangeNumbers = []int{0, 0, 1, -1, 2, 1000000000, 1000000001, -1 << 63, 1<<63 - 1}
)

// spoilt returns nodes in which something is another one than it was.
func spoilt(g *generator, l []api.Node) []api.Node {
	l = cloneNodes(l)
	at := g.IntN(len(l))
	n := &l[at]
	switch g.IntN(10) {
	case 0:
		n.Kind = uint8(g.IntN(62))
	case 1:
		n.Name = pick(g, strangeTexts...)
	case 2:
		n.Unit = pick(g, strangeTexts...)
	case 3:
		n.Var = pick(g, strangeTexts...)
	case 4:
		n.N = pick(g, strangeNumbers...)
	case 5:
		n.Type = pick(g, strangeNumbers...)
	case 6:
		return append(l[:at], l[at+1:]...)
	case 7:
		l = append(l, l[at])
	case 8:
		n.Kids = append(n.Kids, pick(g, -1, 0, at-1, at, at+1, 1<<62))
	case 9:
		if len(n.Kids) > 0 {
			k := g.IntN(len(n.Kids))
			n.Kids[k] += pick(g, -1, 1)
			if g.IntN(2) == 0 {
				n.Kids = slices.Delete(n.Kids, k, k+1)
			}
		}
	}
	return l
}

func cloneNodes(l []api.Node) []api.Node {
	l = slices.Clone(l)
	for i := range l {
		l[i].Kids = slices.Clone(l[i].Kids)
	}
	return l
}

// without returns a tree without a kid of a node and all below it, so that what is left is in postorder.
func without(l []api.Node, at, k int) []api.Node {
	last := l[at].Kids[k]
	first := last
	for len(l[first].Kids) > 0 {
		first = l[first].Kids[0]
	}
	gone := last + 1 - first
	var left []api.Node
	for i, n := range cloneNodes(l) {
		if first <= i && i <= last {
			continue
		}
		if i == at {
			n.Kids = slices.Delete(n.Kids, k, k+1)
		}
		for j := range n.Kids {
			if n.Kids[j] > last {
				n.Kids[j] -= gone
			}
		}
		left = append(left, n)
	}
	return left
}

// doubled returns a tree in which a kid of a node, with all below it, stands twice.
func doubled(l []api.Node, at, k int) []api.Node {
	last := l[at].Kids[k]
	first := last
	for len(l[first].Kids) > 0 {
		first = l[first].Kids[0]
	}
	more := last + 1 - first
	var all []api.Node
	for i, n := range cloneNodes(l) {
		for j := range n.Kids {
			if n.Kids[j] > last {
				n.Kids[j] += more
			}
		}
		if i == at {
			n.Kids = slices.Insert(n.Kids, k+1, last+more)
		}
		all = append(all, n)
		if i == last {
			for _, again := range cloneNodes(l[first : last+1]) {
				for j := range again.Kids {
					again.Kids[j] += more
				}
				all = append(all, again)
			}
		}
	}
	return all
}

// B3: trees are what the table says, and what is spoilt is none.
func TestRows(t *testing.T) {
	g, rows := newGenerator(21), newTable()
	g.qualifiers = []string{"A"}
	grow := []func() int{g.typ, g.expr, g.block, g.signature, g.statement, g.object, g.choice, g.trying, g.cases, g.call}
	for range 3000 {
		l := g.tree(g.IntN(25), pick(g, grow...))
		compareRows(t, rows, l)
		for range 1 + g.IntN(3) {
			compareRows(t, rows, spoilt(g, l))
		}
		if at := g.IntN(len(l)); len(l[at].Kids) > 0 {
			k := g.IntN(len(l[at].Kids))
			compareRows(t, rows, without(l, at, k))
			compareRows(t, rows, doubled(l, at, k))
		}
	}
}

// B3: each kind of node, with each of its fields as it may not be.
func TestFieldsOfEachKind(t *testing.T) {
	g, rows := newGenerator(23), newTable()
	g.qualifiers = []string{"A"}
	found := map[uint8]int{}
	for range 3000 {
		l := g.tree(g.IntN(15), pick(g, g.typ, g.expr, g.block))
		for at, n := range l {
			if found[n.Kind]++; found[n.Kind] <= 2 {
				compareFields(t, rows, l, at)
			}
		}
	}
	for kind, name := range kindNames {
		if found[kind] < 2 {
			t.Errorf("no tree with %s", name)
		}
	}
}

// compareFields compares trees in which a node has another text, or number, in one of its fields.
func compareFields(t *testing.T, rows table, l []api.Node, at int) {
	t.Helper()
	for _, s := range strangeTexts {
		for _, set := range []func(*api.Node){func(n *api.Node) { n.Name = s }, func(n *api.Node) { n.Unit = s }, func(n *api.Node) { n.Var = s }} {
			changed := cloneNodes(l)
			set(&changed[at])
			compareRows(t, rows, changed)
		}
	}
	for _, i := range strangeNumbers {
		for _, set := range []func(*api.Node){func(n *api.Node) { n.N = i }, func(n *api.Node) { n.Type = i }} {
			changed := cloneNodes(l)
			set(&changed[at])
			compareRows(t, rows, changed)
		}
	}
}

// B3: each kind in the place of each kid, and as a root, alone.
func TestEachKindInEachPlace(t *testing.T) {
	g, rows := newGenerator(22), newTable()
	samples := map[uint8][]api.Node{}
	for range 3000 {
		for _, grow := range []func() int{g.typ, g.expr, g.block, g.signature} {
			l := g.tree(g.IntN(12), grow)
			for at, n := range l {
				if sub := subtree(l, at); samples[n.Kind] == nil || len(sub) < len(samples[n.Kind]) {
					samples[n.Kind] = sub
				}
			}
		}
	}
	for kind := range uint8(60) {
		if kindNames[kind] != "" && samples[kind] == nil {
			t.Fatalf("no sample of %s", kindNames[kind])
		}
	}
	for _, l := range samples {
		compareRows(t, rows, l)
		for k := range l[len(l)-1].Kids {
			for _, other := range samples {
				compareRows(t, rows, exchanged(l, k, other))
			}
		}
		for _, other := range samples {
			compareRows(t, rows, above(other, l[len(l)-1]))
		}
	}
}

// subtree returns a node with all below it as a tree of its own.
func subtree(l []api.Node, at int) []api.Node {
	first := at
	for len(l[first].Kids) > 0 {
		first = l[first].Kids[0]
	}
	return moved(l[first:at+1], -first)
}

// moved returns nodes whose kids stand further behind.
func moved(l []api.Node, by int) []api.Node {
	l = cloneNodes(l)
	for i := range l {
		for k := range l[i].Kids {
			l[i].Kids[k] += by
		}
	}
	return l
}

// exchanged returns a tree in which another one is a kid of the root.
func exchanged(l []api.Node, k int, other []api.Node) []api.Node {
	root := l[len(l)-1]
	var all []api.Node
	var kids []int
	for i, kid := range root.Kids {
		sub := subtree(l, kid)
		if i == k {
			sub = other
		}
		all = append(all, moved(sub, len(all))...)
		kids = append(kids, len(all)-1)
	}
	root.Kids = kids
	return append(all, root)
}

// above returns a tree in which a root has one kid alone.
func above(l []api.Node, root api.Node) []api.Node {
	root.Kids = []int{len(l) - 1}
	return append(cloneNodes(l), root)
}
